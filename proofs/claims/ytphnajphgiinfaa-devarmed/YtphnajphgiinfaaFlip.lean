/- The method Flip: a byte of what a block shows is turned. -/
import Derived.Test.YtphnajphgiinfaaMore
namespace Go.Proofs.Ytphnajphgiinfaa
open Go.RowKit Go.Maps Go.MuLone Go.Sort

set_option maxHeartbeats 400000 in
theorem flip_off (c : Nat) (w : World) (b : Nat) (s : St) (h : DevIs 0 c w b s) (hoff : s.off = true) (n at_ by_ : Int) :
    Calls Try.prog 23 #[.pointer (some ⟨b, 0, none⟩), .int .i64 n, .int .i64 at_, .int .u8 by_] w fun e w' => e = .returned (.int .i64 12) ∧ DevIs 0 c w' b s ∧ Kept (fun k => k = b) w w' := by
  go_enter_defers Try.func23, Try.ntmps23
  go_wp2_with fail
  refine (lock_dev c _ b s h).mono ?_
  rintro e w1 ⟨rfl, h1, k1, hs1⟩
  have c6 : w1.cell? ⟨b, 6, none⟩ = some (.bool true) := by rw [h1.cell 6, ← hoff]; rfl
  go_wp2
  refine leaves_cons (f := 28) (args := #[.pointer (some ⟨b, 2, none⟩)]) (by simp) (by simp [go_sem]) ?_
  refine (unlock_dev c .returning _ b s h1).mono ?_
  rintro e u' w2 ⟨rfl, rfl, h2, k2, hs2⟩
  exact ⟨_, results_tmp rfl _ _ _, rfl, h2, k1.trans k2 (fun _ _ x => x)⟩

set_option maxHeartbeats 400000 in
theorem flip_range (c : Nat) (w : World) (b : Nat) (s : St) (h : DevIs 0 c w b s) (hoff : s.off = false) (n at_ by_ : Int) (hr : inRange n s.blocks = false ∨ inRange at_ s.size = false) :
    Calls Try.prog 23 #[.pointer (some ⟨b, 0, none⟩), .int .i64 n, .int .i64 at_, .int .u8 by_] w fun e w' => e = .returned (.int .i64 11) ∧ DevIs 0 c w' b s ∧ Kept (fun k => k = b) w w' := by
  have hcase : inRange n s.blocks = false ∨ (inRange n s.blocks = true ∧ at_ < 0) ∨ (inRange n s.blocks = true ∧ ¬ at_ < 0 ∧ (s.size : Int) ≤ at_) := by
    cases h1 : inRange n s.blocks with
    | false => exact .inl rfl
    | true =>
      right
      rw [h1] at hr
      have h2 : inRange at_ s.size = false := hr.resolve_left (by simp)
      by_cases h3 : at_ < 0
      · exact .inl ⟨rfl, h3⟩
      · right
        have h4 : 0 ≤ at_ := by omega
        simp [inRange, h4] at h2
        exact ⟨rfl, h3, h2⟩
  rcases hcase with hx | ⟨hx, ha⟩ | ⟨hx, ha, hz⟩
  all_goals
    go_enter_defers Try.func23, Try.ntmps23
    go_wp2_with fail
    refine (lock_dev c _ b s h).mono ?_
    rintro e w1 ⟨rfl, h1, k1, hs1⟩
    have c6 : w1.cell? ⟨b, 6, none⟩ = some (.bool false) := by rw [h1.cell 6, ← hoff]; rfl
    have c0 : w1.cell? ⟨b, 0, none⟩ = some (.int .i64 s.size) := h1.cell 0
    go_wp2_with fail
    refine (has_any 1 c _ b s h1 n).mono ?_
    rintro e w' ⟨rfl, rfl⟩
    rw [hx]
    go_wp2
    refine leaves_cons (f := 28) (args := #[.pointer (some ⟨b, 2, none⟩)]) (by simp) (by simp [go_sem]) ?_
    refine (unlock_dev c .returning _ b s h1).mono ?_
    rintro e u' w2 ⟨rfl, rfl, h2, k2, hs2⟩
    exact ⟨_, results_tmp rfl _ _ _, rfl, h2, k1.trans k2 (fun _ _ x => x)⟩

set_option maxHeartbeats 400000 in
theorem flip_bad (c : Nat) (w : World) (b : Nat) (s : St) (h : DevIs 0 c w b s) (hoff : s.off = false) (n at_ by_ : Int) (hn : (Lit.int .i64 n).wf = true) (hr : inRange n s.blocks = true) (ha : inRange at_ s.size = true) (hsh : shows s n = none) :
    Calls Try.prog 23 #[.pointer (some ⟨b, 0, none⟩), .int .i64 n, .int .i64 at_, .int .u8 by_] w fun e w' => e = .returned (.int .i64 14) ∧ DevIs 0 c w' b s ∧ Kept (fun k => k = b) w w' := by
  have ha1 : ¬ at_ < 0 := by simp [inRange] at ha; omega
  have ha2 : ¬ (s.size : Int) ≤ at_ := by simp [inRange] at ha; omega
  clear ha
  go_enter_defers Try.func23, Try.ntmps23
  go_wp2_with fail
  refine (lock_dev c _ b s h).mono ?_
  rintro e w1 ⟨rfl, h1, k1, hs1⟩
  have c6 : w1.cell? ⟨b, 6, none⟩ = some (.bool false) := by rw [h1.cell 6, ← hoff]; rfl
  have c0 : w1.cell? ⟨b, 0, none⟩ = some (.int .i64 s.size) := h1.cell 0
  go_wp2_with fail
  refine (has_any 1 c _ b s h1 n).mono ?_
  rintro e w' ⟨rfl, rfl⟩
  rw [hr]
  go_wp2_with fail
  refine (shown_any 1 c _ b s h1 n hn).mono ?_
  intro e w2 hsw
  unfold ShownIs at hsw
  rw [hsh] at hsw
  obtain ⟨rfl, hb⟩ := hsw
  have h2 := h1.below hb
  go_wp2
  refine leaves_cons (f := 28) (args := #[.pointer (some ⟨b, 2, none⟩)]) (by simp) (by simp [go_sem]) ?_
  refine (unlock_dev c .returning _ b s h2).mono ?_
  rintro e u' w3 ⟨rfl, rfl, h3, k3, hs3⟩
  exact ⟨_, results_tmp rfl _ _ _, rfl, h3, (k1.trans (Kept.of_below (S := fun _ => False) hb) (fun _ _ x => x.elim)).trans k3 (fun _ _ x => x)⟩
end Go.Proofs.Ytphnajphgiinfaa
