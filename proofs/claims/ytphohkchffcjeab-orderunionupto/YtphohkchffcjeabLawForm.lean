/- The law's own 'form'. -/
import Derived.Test.YtphohkchffcjeabInside
namespace Go.Proofs.Ytphohkchffcjeab
open Go.RowKit

theorem len_zero (k : Key) : ((k.length : Int) == 0) = decide (k = []) := by
  cases k with
  | nil => rfl
  | cons a r =>
    simp
    omega
set_option maxHeartbeats 800000 in
set_option maxRecDepth 100000 in
theorem lawForm_any {w : World} {v : Value} {r : Rg} (h : RangeAt w v r) :
    Calls Try.prog 11 #[v] w fun e w' => e = .returned (.bool r.formed) ∧ Below w.heap.size w w' := by
  obtain ⟨v1, v2, rfl, h1, h2⟩ := h.in.is
  obtain ⟨a1, c1, rfl⟩ := h1.form
  obtain ⟨a2, c2, rfl⟩ := h2.form
  have HB : Hid (Below w.heap.size w (w.alloc (.cells #[.slice a1 r.lo.length c1, .slice a2 r.hi.length c2, .bool r.all] 24))) := below_new _ _
  have HCO := compare_key (h1.later rfl HB.out) (h2.later rfl HB.out)
  obtain ⟨lo, hi, all⟩ := r
  simp only at *
  have HX : Hid (Box (w.alloc (.cells #[.slice a1 lo.length c1, .slice a2 hi.length c2, .bool all] 24)) w.heap.size (.slice a1 lo.length c1) (.slice a2 hi.length c2) (.bool all)) := Box.new _ _ _ _
  have e1 := len_zero lo
  have e2 := len_zero hi
  clear h h1 h2
  cases all with
  | true =>
    go_enter Try.func11, Try.ntmps11
    go_wp2
    go_ret
    exact ⟨ret_bool (by simp [Rg.formed]), HB.out⟩
  | false =>
    by_cases hl : lo = []
    · by_cases hh : hi = []
      · subst hl hh
        go_enter Try.func11, Try.ntmps11
        go_wp2
        go_ret
        exact ⟨ret_bool (by simp [Rg.formed]), HB.out⟩
      · have hz : ((hi.length : Int) == 0) = false := by rw [e2]; simp [hh]
        subst hl
        clear e1 e2
        go_enter Try.func11, Try.ntmps11
        go_wp2_with (go_at_call 14; refine HCO.mono ?_; rintro e _ ⟨rfl, q, rfl⟩)
        go_ret
        exact ⟨ret_bool (by simp [Rg.formed, hh, cmpK_lt]), below_draws HB.out _⟩
    · have hz : ((lo.length : Int) == 0) = false := by rw [e1]; simp [hl]
      clear e1 e2
      go_enter Try.func11, Try.ntmps11
      go_wp2_with (go_at_call 14; refine HCO.mono ?_; rintro e _ ⟨rfl, q, rfl⟩)
      go_ret
      exact ⟨ret_bool (by simp [Rg.formed, hl, cmpK_lt]), below_draws HB.out _⟩
end Go.Proofs.Ytphohkchffcjeab
