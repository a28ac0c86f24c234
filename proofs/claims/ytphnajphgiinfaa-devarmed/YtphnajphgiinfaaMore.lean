/- The methods Arm and Size, and Write where it does nothing. -/
import Derived.Test.YtphnajphgiinfaaWrite
namespace Go.Proofs.Ytphnajphgiinfaa
open Go.RowKit Go.Maps Go.MuLone Go.Sort

theorem size_any (lk : Int) (c : Nat) (w : World) (b : Nat) (s : St) (h : DevIs lk c w b s) :
    Calls Try.prog 39 #[.pointer (some ⟨b, 0, none⟩)] w fun e w' => e = .returned (.int .i64 s.size) ∧ w' = w := by
  have c0 : w.cell? ⟨b, 0, none⟩ = some (.int .i64 s.size) := h.cell 0
  clear h
  go_enter Try.func39, Try.ntmps39
  go_wp2
  go_ret
  exact ⟨rfl, rfl⟩

set_option maxHeartbeats 1000000 in
set_option maxRecDepth 100000 in
theorem write_off (c : Nat) (w : World) (b : Nat) (s : St) (h : DevIs 0 c w b s) (hoff : s.off = true) (n : Int) (a : Option Addr) (len cap : Nat) :
    Calls Try.prog 11 #[.pointer (some ⟨b, 0, none⟩), .int .i64 n, .slice a len cap] w fun e w' => e = .returned (.int .i64 12) ∧ DevIs 0 c w' b s ∧ Kept (fun k => k = b) w w' := by
  have hbl := h.own_lt (.inl rfl)
  have hba : Below w.heap.size w (((w.alloc (.cells #[.pointer (some ⟨b, 0, none⟩)] 27)).alloc (.cells #[.int .i64 n] 3)).alloc (.cells #[.slice a len cap] 29)) :=
    (((Below.refl _ _).alloc (Nat.le_refl _) _).alloc (by simp) _).alloc (by simp; omega) _
  have h0 := h.below hba
  go_enter_defers Try.func11, Try.ntmps11
  go_wp2_with fail
  refine (lock_dev c _ b s h0).mono ?_
  rintro e w1 ⟨rfl, h1, k1, hs1⟩
  obtain ⟨z0, z1, z2⟩ := boxes3 w (.pointer (some ⟨b, 0, none⟩)) (.int .i64 n) (.slice a len cap) 27 3 29
  have x0 := kept_cell_some k1 z0 (fun e => by omega)
  have c6 : w1.cell? ⟨b, 6, none⟩ = some (.bool true) := by rw [h1.cell 6, ← hoff]; rfl
  go_wp2
  refine leaves_cons (f := 28) (args := #[.pointer (some ⟨b, 2, none⟩)]) (by simp) (by simp [go_sem]) ?_
  refine (unlock_dev c .returning _ b s h1).mono ?_
  rintro e u' w2 ⟨rfl, rfl, h2, k2, hs2⟩
  exact ⟨_, results_tmp rfl _ _ _, rfl, h2, ((Kept.of_below hba).trans k1 (fun _ _ x => x)).trans k2 (fun _ _ x => x)⟩

set_option maxHeartbeats 1000000 in
set_option maxRecDepth 100000 in
theorem write_range (c : Nat) (w : World) (b : Nat) (s : St) (h : DevIs 0 c w b s) (hoff : s.off = false) (n : Int) (hr : inRange n s.blocks = false) (a : Option Addr) (len cap : Nat) :
    Calls Try.prog 11 #[.pointer (some ⟨b, 0, none⟩), .int .i64 n, .slice a len cap] w fun e w' => e = .returned (.int .i64 11) ∧ DevIs 0 c w' b s ∧ Kept (fun k => k = b) w w' := by
  have hbl := h.own_lt (.inl rfl)
  have hba : Below w.heap.size w (((w.alloc (.cells #[.pointer (some ⟨b, 0, none⟩)] 27)).alloc (.cells #[.int .i64 n] 3)).alloc (.cells #[.slice a len cap] 29)) :=
    (((Below.refl _ _).alloc (Nat.le_refl _) _).alloc (by simp) _).alloc (by simp; omega) _
  have h0 := h.below hba
  go_enter_defers Try.func11, Try.ntmps11
  go_wp2_with fail
  refine (lock_dev c _ b s h0).mono ?_
  rintro e w1 ⟨rfl, h1, k1, hs1⟩
  obtain ⟨z0, z1, z2⟩ := boxes3 w (.pointer (some ⟨b, 0, none⟩)) (.int .i64 n) (.slice a len cap) 27 3 29
  have x0 := kept_cell_some k1 z0 (fun e => by omega)
  have x1 := kept_cell_some k1 z1 (fun e => by omega)
  have c6 : w1.cell? ⟨b, 6, none⟩ = some (.bool false) := by rw [h1.cell 6, ← hoff]; rfl
  go_wp2_with fail
  go_quiet ((go_at_call 29; exact Calls.quiet_of_same (has_false 1 c _ b s (h1.below (below_drewN _ _ _)) n hr)))
  go_wp2
  refine leaves_cons (f := 28) (args := #[.pointer (some ⟨b, 2, none⟩)]) (by simp) (by simp [go_sem]) ?_
  refine (unlock_dev c .returning _ b s (h1.below (below_drewN _ _ _))).mono ?_
  rintro e u' w2 ⟨rfl, rfl, h2, k2, hs2⟩
  exact ⟨_, results_tmp rfl _ _ _, rfl, h2, (((Kept.of_below hba).trans k1 (fun _ _ x => x)).trans (Kept.of_below (S := fun _ => False) (below_drewN w1.heap.size w1 _)) (fun _ _ x => x.elim)).trans k2 (fun _ _ x => x)⟩

/-- What Arm says. -/
def St.arm (s : St) (n how : Int) (done : Bool) : St := { s with ch := n, how := how, done := done }
def armOk (n how : Int) : Bool := decide (0 ≤ n) && (how == 0 || how == 1)

theorem DevIs.arm {lk : Int} {c : Nat} {w : World} {b : Nat} {s : St} (h : DevIs lk c w b s) (n how : Int) (done : Bool) :
    DevIs lk c (((w.setCell ⟨b, 7, none⟩ (.int .i64 n)).setCell ⟨b, 8, none⟩ (.int .i64 how)).setCell ⟨b, 9, none⟩ (.bool done)) b (s.arm n how done) ∧
    Kept (fun k => k = b) w (((w.setCell ⟨b, 7, none⟩ (.int .i64 n)).setCell ⟨b, 8, none⟩ (.int .i64 how)).setCell ⟨b, 9, none⟩ (.bool done)) := by
  have h2 := h.set (lk' := lk) (s' := { s with ch := n }) 7 (.int .i64 n) rfl rfl rfl rfl rfl rfl rfl rfl rfl
  have h3 := h2.1.set (lk' := lk) (s' := { s with ch := n, how := how }) 8 (.int .i64 how) rfl rfl rfl rfl rfl rfl rfl rfl rfl
  have h4 := h3.1.set (lk' := lk) (s' := { s with ch := n, how := how, done := done }) 9 (.bool done) rfl rfl rfl rfl rfl rfl rfl rfl rfl
  exact ⟨h4.1, (h2.2.trans h3.2 (fun _ _ x => x)).trans h4.2 (fun _ _ x => x)⟩

theorem arm_off (c : Nat) (w : World) (b : Nat) (s : St) (h : DevIs 0 c w b s) (hoff : s.off = true) (n how : Int) (done : Bool) :
    Calls Try.prog 20 #[.pointer (some ⟨b, 0, none⟩), .int .i64 n, .int .i64 how, .bool done] w fun e w' => e = .returned (.int .i64 12) ∧ DevIs 0 c w' b s ∧ Kept (fun k => k = b) w w' := by
  go_enter_defers Try.func20, Try.ntmps20
  go_wp2_with fail
  refine (lock_dev c _ b s h).mono ?_
  rintro e w1 ⟨rfl, h1, k1, hs1⟩
  have c6 : w1.cell? ⟨b, 6, none⟩ = some (.bool true) := by rw [h1.cell 6, ← hoff]; rfl
  go_wp2
  refine leaves_cons (f := 28) (args := #[.pointer (some ⟨b, 2, none⟩)]) (by simp) (by simp [go_sem]) ?_
  refine (unlock_dev c .returning _ b s h1).mono ?_
  rintro e u' w2 ⟨rfl, rfl, h2, k2, hs2⟩
  exact ⟨_, results_tmp rfl _ _ _, rfl, h2, k1.trans k2 (fun _ _ x => x)⟩

set_option maxHeartbeats 1000000 in
theorem arm_on (c : Nat) (w : World) (b : Nat) (s : St) (h : DevIs 0 c w b s) (hoff : s.off = false) (n how : Int) (done : Bool) (hn : 0 ≤ n) (hh : how = 0 ∨ how = 1) :
    Calls Try.prog 20 #[.pointer (some ⟨b, 0, none⟩), .int .i64 n, .int .i64 how, .bool done] w fun e w' => e = .returned (.int .i64 0) ∧ DevIs 0 c w' b (s.arm n how done) ∧ Kept (fun k => k = b) w w' := by
  have hnd : ¬ n < 0 := by omega
  have hcase : (how != 0) = false ∨ ((how != 0) = true ∧ (how != 1) = false) := by
    rcases hh with rfl | rfl
    · exact .inl rfl
    · exact .inr ⟨rfl, rfl⟩
  clear hh
  rcases hcase with hh0 | ⟨hh0, hh1⟩
  all_goals
    go_enter_defers Try.func20, Try.ntmps20
    go_wp2_with fail
    refine (lock_dev c _ b s h).mono ?_
    rintro e w1 ⟨rfl, h1, k1, hs1⟩
    have c6 : w1.cell? ⟨b, 6, none⟩ = some (.bool false) := by rw [h1.cell 6, ← hoff]; rfl
    have c7 : w1.cell? ⟨b, 7, none⟩ = some (.int .i64 s.ch) := h1.cell 7
    have c8 : w1.cell? ⟨b, 8, none⟩ = some (.int .i64 s.how) := h1.cell 8
    have c9 : w1.cell? ⟨b, 9, none⟩ = some (.bool s.done) := h1.cell 9
    have f7 := h1.frozen 7
    have f8 := h1.frozen 8
    have f9 := h1.frozen 9
    go_wp2
    have h2 := h1.arm n how done
    refine leaves_cons (f := 28) (args := #[.pointer (some ⟨b, 2, none⟩)]) (by simp) (by simp [go_sem]) ?_
    refine (unlock_dev c .returning _ b _ h2.1).mono ?_
    rintro e u' w2 ⟨rfl, rfl, h3, k3, hs3⟩
    exact ⟨_, results_tmp rfl _ _ _, rfl, h3, (k1.trans h2.2 (fun _ _ x => x)).trans k3 (fun _ _ x => x)⟩

set_option maxHeartbeats 1000000 in
theorem arm_bad (c : Nat) (w : World) (b : Nat) (s : St) (h : DevIs 0 c w b s) (hoff : s.off = false) (n how : Int) (done : Bool) (hb : armOk n how = false) :
    Calls Try.prog 20 #[.pointer (some ⟨b, 0, none⟩), .int .i64 n, .int .i64 how, .bool done] w fun e w' => e = .returned (.int .i64 1) ∧ DevIs 0 c w' b s ∧ Kept (fun k => k = b) w w' := by
  have hcase : n < 0 ∨ (¬ n < 0 ∧ (how != 0) = true ∧ (how != 1) = true) := by
    by_cases h1 : n < 0
    · exact .inl h1
    · right
      have h2 : 0 ≤ n := by omega
      simp [armOk, h2] at hb
      exact ⟨h1, by simpa using hb.1, by simpa using hb.2⟩
  rcases hcase with hn | ⟨hn, hh0, hh1⟩
  all_goals
    go_enter_defers Try.func20, Try.ntmps20
    go_wp2_with fail
    refine (lock_dev c _ b s h).mono ?_
    rintro e w1 ⟨rfl, h1, k1, hs1⟩
    have c6 : w1.cell? ⟨b, 6, none⟩ = some (.bool false) := by rw [h1.cell 6, ← hoff]; rfl
    go_wp2
    refine leaves_cons (f := 28) (args := #[.pointer (some ⟨b, 2, none⟩)]) (by simp) (by simp [go_sem]) ?_
    refine (unlock_dev c .returning _ b s h1).mono ?_
    rintro e u' w2 ⟨rfl, rfl, h2, k2, hs2⟩
    exact ⟨_, results_tmp rfl _ _ _, rfl, h2, k1.trans k2 (fun _ _ x => x)⟩
end Go.Proofs.Ytphnajphgiinfaa
