/- weight: how much Kids are, as far as the bound. -/
import Derived.Test.YtaehchijeinloaaReads
namespace Go.Proofs.Ytaehchijeinloaa
open Go.RowKit

def weightL (L : List Kc) : Nat := (L.map fun e => 1 + e.k.length).sum
theorem weightL_take {L : List Kc} {k : Nat} {e : Kc} (h : L[k]? = some e) : weightL (L.take (k + 1)) = weightL (L.take k) + (1 + e.k.length) := by
  unfold weightL
  rw [List.take_add_one, h]
  simp [List.sum_append]
set_option maxHeartbeats 800000 in
set_option maxRecDepth 100000 in
theorem weight_any {w : World} {v : Value} {ps : List Int} {L : List Kc} (h : KidsAt w.heap.size w v ps L) :
    Calls Try.prog 10 #[v] w fun r w' => (∃ z : Nat, r = .returned (.int .i64 z) ∧ (z ≤ 2147483647 → z = ps.length + weightL L)) ∧ Below w.heap.size w w' := by
  obtain ⟨vp, vk, rfl, h1, h2⟩ := h.is
  obtain ⟨a1, c1, rfl⟩ := h1.form
  obtain ⟨a2, c2, rfl⟩ := h2.form
  have hs1 := h1.short
  have hs2 := h2.short
  obtain ⟨W, hW⟩ : ∃ W, W = w.alloc (.cells #[.slice a1 ps.length c1, .slice a2 L.length c2] 26) := ⟨_, rfl⟩
  have HBW : Hid (Below w.heap.size w W) := by rw [hW]; exact below_new _ _
  have HK : Hid (KeysAt W.heap.size W (.slice a2 L.length c2) L) := h2.here HBW.out
  clear h h1 h2
  go_enter Try.func10, Try.ntmps10
  go_wp2
  rw [← hW]
  have c0 : W.cell? ⟨w.heap.size, 1, none⟩ = some (.slice a2 L.length c2) := by rw [hW, row_cell (heap_alloc_last w _)]; rfl
  clear hW
  go_loopw [3, 4] (fun n i wx => ∃ (k N : Nat), k ≤ L.length ∧ i = .int .i64 k ∧ n = .int .i64 N ∧ N = ps.length + weightL (L.take k) ∧ N ≤ 281474976710656 ∧ wx = W) (fun _ i _ => L.length - (intOf i).toNat)
  case atStart => exact ⟨0, ps.length, by omega, rfl, rfl, by simp [weightL], by omega, rfl⟩
  case round =>
    obtain ⟨k, N, hk, rfl, rfl, hN, hb, rfl⟩ := hrel
    have HN : Hid (N = ps.length + weightL (L.take k)) := hN
    clear hN
    have hbz : (N : Int) ≤ 281474976710656 := by omega
    by_cases hgo : k < L.length ∧ N ≤ 2147483647
    · obtain ⟨hlt, hle⟩ := hgo
      have hz : (k : Int) < (L.length : Int) := by omega
      have hy : (N : Int) ≤ 2147483647 := by omega
      obtain ⟨e, he⟩ : ∃ e, L[k]? = some e := ⟨_, List.getElem?_eq_getElem hlt⟩
      obtain ⟨g, off, _, e1, hcell⟩ := HK.out.cell k e he
      cases e1
      have hok := HK.out.ok e (List.mem_of_getElem? he)
      have hsh := hok.short
      obtain ⟨a, c, e2⟩ := hok.form
      rw [e2] at hcell
      have hsz : (e.k.length : Int) ≤ 140737488355328 := by omega
      have HS : Hid (N + (1 + e.k.length) = ps.length + weightL (L.take (k + 1))) := by
        rw [Hid, weightL_take he, HN.out]
        omega
      clear he hok e2
      go_wp2
      exact ⟨⟨k + 1, N + (1 + e.k.length), by omega, by go_num, by go_num, HS.out, by omega, by first | trivial | rfl⟩, by simp [intOf]; omega⟩
    · have hways : ((k : Int) < (L.length : Int) ∧ ¬ (N : Int) ≤ 2147483647) ∨ ¬ (k : Int) < (L.length : Int) := by omega
      have HE : Hid (N ≤ 2147483647 → N = ps.length + weightL L) := fun hle => by
        have e : L.take k = L := List.take_of_length_le (by omega)
        have := HN.out
        rw [e] at this
        exact this
      rcases hways with ⟨hz, hy⟩ | hz
      all_goals
        go_wp2
        go_ret
        exact ⟨⟨N, rfl, HE.out⟩, HBW.out⟩
end Go.Proofs.Ytaehchijeinloaa
