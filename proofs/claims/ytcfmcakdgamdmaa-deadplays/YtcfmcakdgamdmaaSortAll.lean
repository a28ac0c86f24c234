/- slices.Sort of numbers, however many. -/
import Derived.Test.YtcfmcakdgamdmaaPdq
namespace Go.Proofs.Ytcfmcakdgamdmaa
open Go.RowKit Go.Sort Go.Shelf

theorem sort_done {base g c n : Nat} {w w' : World} {S : List Int} {d : Array Int} (hb : base ≤ g) (hbw : base ≤ w.heap.size) (hcm : c ≤ maxLen) (hn : S.length = n) (hp : PermIn 0 n S.toArray d) (hq : SortedIn ltInt 0 n d) (h : URow w w' g c d) : SortPost base w (.slice (some ⟨g, 0, none⟩) n c) S (.returned (.tuple #[])) w' := by
  have hs0 : S.toArray.size = n := by simpa using hn
  have hs : d.toList = S.toArray.toList.mergeSort (fun x y => !ltInt y x) := sorted_unique_holds swo_ltInt (fun x y h1 h2 => by simp [ltInt] at h1 h2; omega) S.toArray d (by rw [hs0]; exact hp) (by rw [hs0]; exact hq)
  have hsz : d.size = n := hp.1.trans hs0
  refine ⟨d.toList, rfl, ?_, ?_, own_urow hb hcm hsz h, ⟨h.kept.os, h.kept.tape, h.kept.output, h.kept.size, fun k hk => h.kept.block k (by omega) (by omega)⟩⟩
  · rw [hs]; exact List.mergeSort_perm _ _
  · rw [hs]
    have := List.pairwise_mergeSort (le := fun x y : Int => !ltInt y x) (fun a b c h1 h2 => by simp [ltInt] at *; omega) (fun a b => by simp [ltInt]; omega) S
    exact this.imp (by intro a b h; simp [ltInt] at h; omega)
set_option maxHeartbeats 1600000 in
set_option maxRecDepth 100000 in
theorem sort_all (n : Nat) (hn : n ≤ 140737488355328) : SortOk n := by
  by_cases h12 : n ≤ 12
  · exact sort12 n h12
  intro base w v S hv hS hb
  rcases hv.2 with ⟨rfl, h0⟩ | ⟨g, c, cur, rfl, hbg, hg, hc, hm, hsz, ht⟩
  · omega
  · subst hS
    have hu := urow_own hg hc hsz ht
    have hbl := bitLen_small S.length (by omega) hn
    have HP := pdq_any (S.length + 1) (cc := c) (a := 0) (b := S.length) (lim := Lib.bitLen S.length) (d := S.toArray) (by omega) hu (Nat.zero_le _) (by simp) (by simpa using hn) (by omega) (.inl rfl)
    have HL := len_any w S.length (by omega)
    have hsa : S.toArray.size = S.length := by simp
    rw [hsa] at HP
    clear hu ht hsz hc hsa
    generalize Lib.bitLen S.length = q at HP HL hbl
    go_enter Try.func33, Try.ntmps33
    go_wp2_with (first
      | (go_at_call 44; refine HL.mono ?_; rintro e w' ⟨rfl, hw'⟩; obtain rfl := hw'.symm)
      | (go_at_call 43; refine HP.mono ?_; rintro e w2 ⟨d', rfl, h2, h3, h4⟩; have H2 : Hid (PermIn 0 S.length S.toArray d' ∧ SortedIn ltInt 0 S.length d' ∧ URow w w2 g c d') := ⟨h2, h3, h4⟩; clear h2 h3 h4))
    go_end0
    exact sort_done hbg hb hm rfl H2.out.1 H2.out.2.1 H2.out.2.2
end Go.Proofs.Ytcfmcakdgamdmaa
