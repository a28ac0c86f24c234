/- Fit of banyanref06. -/
import Derived.Test.YtaehchijeinloaaReads
namespace Go.Proofs.Ytaehchijeinloaa
open Go.RowKit

set_option maxHeartbeats 800000 in
set_option maxRecDepth 100000 in
theorem refFit_any {w : World} {v : Value} {ps : List Int} {L : List Kc} (h : KidsAt w.heap.size w v ps L) :
    Calls Try.prog 45 #[v] w fun r w' => r = .returned (.bool (kd ps L).fit) ∧ Below w.heap.size w w' := by
  obtain ⟨vp, vk, rfl, h1, h2⟩ := h.is
  obtain ⟨a1, c1, rfl⟩ := h1.form
  obtain ⟨a2, c2, rfl⟩ := h2.form
  have hs1 := h1.short
  have hs2 := h2.short
  have HB0 : Hid (Below w.heap.size w (w.alloc (.cells #[.slice a1 ps.length c1, .slice a2 L.length c2] 26))) := below_new _ _
  clear h h1 h2
  by_cases hp : 0 < ps.length
  · have hpz : (0 : Int) < (ps.length : Int) := by omega
    by_cases he : L.length + 1 = ps.length
    · have HF : Hid ((kd ps L).fit = true) := fit_iff.2 ⟨hp, by rw [show (kd ps L).ks.length = L.length from keysOf_length L]; exact he⟩
      have hez : ((L.length : Int) == (ps.length : Int) - 1) = true := by simp; omega
      clear he
      go_enter Try.func45, Try.ntmps45
      go_wp2
      go_ret
      exact ⟨ret_bool (by rw [HF.out]), HB0.out⟩
    · have HF : Hid ((kd ps L).fit = false) := by
        rw [Hid, ← Bool.not_eq_true, fit_iff]
        rintro ⟨_, h⟩
        rw [show (kd ps L).ks.length = L.length from keysOf_length L] at h
        exact he h
      have hez : ((L.length : Int) == (ps.length : Int) - 1) = false := by rw [beq_eq_false_iff_ne]; omega
      clear he
      go_enter Try.func45, Try.ntmps45
      go_wp2
      go_ret
      exact ⟨ret_bool (by rw [HF.out]), HB0.out⟩
  · have hpz : ¬ (0 : Int) < (ps.length : Int) := by omega
    have HF : Hid ((kd ps L).fit = false) := by
      rw [Hid, ← Bool.not_eq_true, fit_iff]
      rintro ⟨h, _⟩
      exact hp h
    go_enter Try.func45, Try.ntmps45
    go_wp2
    go_ret
    exact ⟨ret_bool (by rw [HF.out]), HB0.out⟩
end Go.Proofs.Ytaehchijeinloaa
