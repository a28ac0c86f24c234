/- The law's own functions: marked, lend. -/
import Derived.Test.YtgifnaahahfhbaaAnew
import Derived.Deep.RegionHeldLaw
namespace Go.Proofs.Ytgifnaahahfhbaa
open Go.RowKit

def ends2 : Key := [0xa7, 0xa8]
theorem newEmpty (w : World) : NewKey w.heap.size (w.alloc (.cells #[] 5)) (.slice (some ⟨w.heap.size, 0, none⟩) 0 0) [] := by
  refine ⟨⟨by simp, .inr ⟨w.heap.size, 0, #[], rfl, Nat.le_refl _, heap_alloc_last w _, by decide, by unfold maxLen; omega, rfl, rfl⟩⟩, by decide⟩
theorem marks_at (W : World) : KeyAt (W.alloc (.cells #[.int .u8 167, .int .u8 168] 5)) (.slice (some ⟨W.heap.size, 0, none⟩) 2 2) ends2 :=
  ⟨⟨_, 2, rfl, fun j x hj => ⟨W.heap.size, 0, rfl, by simp, by
    rw [Nat.zero_add, row_cell (heap_alloc_last W _)]
    match j, hj with
    | 0, h => cases h; rfl
    | 1, h => cases h; rfl⟩, by decide, fun h => by cases h⟩, by decide⟩

set_option maxHeartbeats 800000 in
set_option maxRecDepth 100000 in
theorem marked_any {w : World} {v : Value} {k : Key} (h : KeyAt w v k) (hk : k.length ≤ 140737488351232) :
    Calls Try.prog 17 #[v] w fun e w' => ∃ v', e = .returned v' ∧ NewKey w.heap.size w' v' (k ++ ends2) ∧ Below w.heap.size w w' := by
  obtain ⟨a, c, rfl⟩ := h.in.form
  have HK : Hid (KeyAt w (.slice a k.length c) k) := h
  clear h
  go_enter Try.func17, Try.ntmps17
  go_wp2_with (first
    | (at_builtin; refine wpList_append_key rfl _ _ rfl w.heap.size (.slice (some ⟨w.heap.size, 0, none⟩) 0 0) (.slice a k.length c) [] k rfl (newEmpty w) rfl (HK.out.here (below_new _ _)) (by simp; omega) (by simp) ?_
       intro v1 w1 hv1 hk1
       have HV1 : Hid (NewKey w.heap.size w1 v1 k) := hv1
       have HB1 : Hid (Below w.heap.size w w1) := (below_new w _).trans (hk1.low.mono (by simp))
       clear hv1 hk1)
    | (at_builtin; refine wpList_append_key rfl _ _ rfl w.heap.size v1 _ k ends2 rfl (HV1.out.here (below_new _ _)) rfl (marks_at w1) (by simp [ends2]; omega) (Nat.le_trans HB1.out.size (by simp)) ?_
       intro v2 w2 hv2 hk2
       have HV2 : Hid (NewKey w.heap.size w2 v2 (k ++ ends2)) := hv2
       have HB2 : Hid (Below w.heap.size w w2) := (HB1.out.trans ((below_new w1 _).mono HB1.out.size)).trans hk2.low
       clear hv2 hk2))
  go_ret
  exact ⟨_, rfl, HV2.out, HB2.out⟩
end Go.Proofs.Ytgifnaahahfhbaa
