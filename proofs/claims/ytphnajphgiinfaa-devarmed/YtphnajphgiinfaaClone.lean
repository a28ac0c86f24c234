/- slices.Clone of bytes and of a row of bytes, at this dump. -/
import Derived.Test.YtphnajphgiinfaaBase
import Derived.Test.YtphnajphgiinfaaShelf
import Derived.Test.YtphnajphgiinfaaFill
namespace Go.Proofs.Ytphnajphgiinfaa
open Go.RowKit Go.Maps Go.Shelf

theorem oneB (bs : List UInt8) : ∀ u ∈ bs.map encB, u.oneCell' = true := by
  intro u hu
  obtain ⟨c, _, rfl⟩ := List.mem_map.1 hu
  rfl

theorem bytesAt_form {w : World} {n : Nat} {v : Value} {bs : List UInt8} (h : bytesAt w n v bs) (hn : 1 ≤ n) : ∃ g cap, v = .slice (some ⟨g, 0, none⟩) n cap ∧ g < w.heap.size ∧ (∀ i, w.frozen? ⟨g, i, none⟩ = false) ∧ ∀ (j : Nat) u, (bs.map encB)[j]? = some u → w.cell? ⟨g, 0 + j, none⟩ = some u := by
  rcases h.2 with ⟨_, h'⟩ | ⟨g, cap, cur, hv, _, hg, hnc, _, hcs, ht⟩
  · omega
  · refine ⟨g, cap, hv, (Array.getElem?_eq_some_iff.1 hg).1, fun i => by simp [World.frozen?, hg], fun j u hj => ?_⟩
    have hj' := hj
    rw [← ht, List.getElem?_take] at hj
    split at hj
    · simpa [World.cell?, hg] using hj
    · cases hj

theorem clone_any (n : Nat) (v : Value) (bs : List UInt8) (w : World) (h : bytesAt w n v bs) (hn : 1 ≤ n) (hn2 : n ≤ 4096) :
    Calls Try.prog 32 #[v] w fun e w' => ∃ v', e = .returned v' ∧ w'.ownsRow w.heap.size 5 1 v' n (bs.map encB) ∧ v' ≠ .slice none 0 0 ∧ Below w.heap.size w w' := by
  obtain ⟨i0, hi, hz0, hz1, hz2⟩ := info5'
  obtain ⟨g, cap, rfl, _, _, hc⟩ := bytesAt_form h hn
  exact AnyE.slices_Clone Try.cloneB i0 (.int .u8 0) 1 1 hi hz0 hz1 hz2 rfl (by decide) Try.sizeOf5 g 0 n cap (bs.map encB) w h.1 (by unfold maxLen; omega) (by omega) hc (oneB bs)

end Go.Proofs.Ytphnajphgiinfaa
