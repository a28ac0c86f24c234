/- The law's own function 'did', of the other kinds of a step. -/
import Derived.Test.YtphnajphgiinfaaDid
namespace Go.Proofs.Ytphnajphgiinfaa
open Go.RowKit Go.Maps Go.MuLone Go.Sort

set_option maxHeartbeats 1000000 in
set_option maxRecDepth 100000 in
theorem did_barrier (c : Nat) (w : World) (b : Nat) (s : St) (h : DevIs 0 c w b s) (on A B : Int) (v : Int) (aT aF : Option Addr) (lenT capT lenF capF : Nat) (dn : Bool) (R : World → Ending → World → Prop)
    (hcall : ∀ W, Below w.heap.size w W → DevIs 0 c W b s → Calls Try.prog 13 #[.pointer (some ⟨b, 0, none⟩)] W fun e w' => R W e w' ∧ ∃ z, e = .returned (.int .i64 z)) :
    Calls Try.prog 21 #[.pointer (some ⟨b, 0, none⟩), .agg #[.int .i64 4, .int .i64 on, .int .i64 A, .int .i64 B, .int .u8 v, .slice aT lenT capT, .slice aF lenF capF, .bool dn]] w fun e w' =>
      ∃ w1 e1, Below w.heap.size w w1 ∧ DevIs 0 c w1 b s ∧ R w1 e1 w' ∧ e = e1 := by
  have hba : Below w.heap.size w (w.alloc (.cells #[.int .i64 4, .int .i64 on, .int .i64 A, .int .i64 B, .int .u8 v, .slice aT lenT capT, .slice aF lenF capF, .bool dn] 53)) := (Below.refl _ _).alloc (Nat.le_refl _) _
  have h0 := h.below hba
  go_enter Try.func21, Try.ntmps21
  go_wp2_with fail
  refine (hcall _ hba h0).mono ?_
  rintro e w2 ⟨hR, z, rfl⟩
  go_wp2
  go_ret
  exact ⟨_, _, hba, h0, hR, rfl⟩

set_option maxHeartbeats 1000000 in
set_option maxRecDepth 100000 in
theorem did_arm (c : Nat) (w : World) (b : Nat) (s : St) (h : DevIs 0 c w b s) (on A B : Int) (v : Int) (aT aF : Option Addr) (lenT capT lenF capF : Nat) (dn : Bool) (R : World → Ending → World → Prop)
    (hcall : ∀ W, Below w.heap.size w W → DevIs 0 c W b s → Calls Try.prog 20 #[.pointer (some ⟨b, 0, none⟩), .int .i64 A, .int .i64 B, .bool dn] W fun e w' => R W e w' ∧ ∃ z, e = .returned (.int .i64 z)) :
    Calls Try.prog 21 #[.pointer (some ⟨b, 0, none⟩), .agg #[.int .i64 5, .int .i64 on, .int .i64 A, .int .i64 B, .int .u8 v, .slice aT lenT capT, .slice aF lenF capF, .bool dn]] w fun e w' =>
      ∃ w1 e1, Below w.heap.size w w1 ∧ DevIs 0 c w1 b s ∧ R w1 e1 w' ∧ e = e1 := by
  have hba : Below w.heap.size w (w.alloc (.cells #[.int .i64 5, .int .i64 on, .int .i64 A, .int .i64 B, .int .u8 v, .slice aT lenT capT, .slice aF lenF capF, .bool dn] 53)) := (Below.refl _ _).alloc (Nat.le_refl _) _
  have h0 := h.below hba
  go_enter Try.func21, Try.ntmps21
  go_wp2_with fail
  refine (hcall _ hba h0).mono ?_
  rintro e w2 ⟨hR, z, rfl⟩
  go_wp2
  go_ret
  exact ⟨_, _, hba, h0, hR, rfl⟩

set_option maxHeartbeats 1000000 in
set_option maxRecDepth 100000 in
theorem did_restart (c : Nat) (w : World) (b : Nat) (s : St) (h : DevIs 0 c w b s) (on A B : Int) (v : Int) (aT aF : Option Addr) (lenT capT lenF capF : Nat) (dn : Bool) (R : World → Ending → World → Prop)
    (hcall : ∀ W, Below w.heap.size w W → DevIs 0 c W b s → Calls Try.prog 15 #[.pointer (some ⟨b, 0, none⟩), .slice aF lenF capF] W fun e w' => R W e w' ∧ e = .returned (.tuple #[])) :
    Calls Try.prog 21 #[.pointer (some ⟨b, 0, none⟩), .agg #[.int .i64 7, .int .i64 on, .int .i64 A, .int .i64 B, .int .u8 v, .slice aT lenT capT, .slice aF lenF capF, .bool dn]] w fun e w' =>
      ∃ w1 e1, Below w.heap.size w w1 ∧ DevIs 0 c w1 b s ∧ R w1 e1 w' ∧ e = .returned (.int .i64 0) := by
  have hba : Below w.heap.size w (w.alloc (.cells #[.int .i64 7, .int .i64 on, .int .i64 A, .int .i64 B, .int .u8 v, .slice aT lenT capT, .slice aF lenF capF, .bool dn] 53)) := (Below.refl _ _).alloc (Nat.le_refl _) _
  have h0 := h.below hba
  go_enter Try.func21, Try.ntmps21
  go_wp2_with fail
  refine (hcall _ hba h0).mono ?_
  rintro e w2 ⟨hR, rfl⟩
  go_wp2
  go_ret
  exact ⟨_, _, hba, h0, hR, rfl⟩

set_option maxHeartbeats 1000000 in
set_option maxRecDepth 100000 in
theorem did_flip (c : Nat) (w : World) (b : Nat) (s : St) (h : DevIs 0 c w b s) (on A B : Int) (v : Int) (aT aF : Option Addr) (lenT capT lenF capF : Nat) (dn : Bool) (R : World → Ending → World → Prop)
    (hcall : ∀ W, Below w.heap.size w W → DevIs 0 c W b s → Calls Try.prog 23 #[.pointer (some ⟨b, 0, none⟩), .int .i64 A, .int .i64 B, .int .u8 v] W fun e w' => R W e w' ∧ ∃ z, e = .returned (.int .i64 z)) :
    Calls Try.prog 21 #[.pointer (some ⟨b, 0, none⟩), .agg #[.int .i64 8, .int .i64 on, .int .i64 A, .int .i64 B, .int .u8 v, .slice aT lenT capT, .slice aF lenF capF, .bool dn]] w fun e w' =>
      ∃ w1 e1, Below w.heap.size w w1 ∧ DevIs 0 c w1 b s ∧ R w1 e1 w' ∧ e = e1 := by
  have hba : Below w.heap.size w (w.alloc (.cells #[.int .i64 8, .int .i64 on, .int .i64 A, .int .i64 B, .int .u8 v, .slice aT lenT capT, .slice aF lenF capF, .bool dn] 53)) := (Below.refl _ _).alloc (Nat.le_refl _) _
  have h0 := h.below hba
  go_enter Try.func21, Try.ntmps21
  go_wp2_with fail
  refine (hcall _ hba h0).mono ?_
  rintro e w2 ⟨hR, z, rfl⟩
  go_wp2
  go_ret
  exact ⟨_, _, hba, h0, hR, rfl⟩

set_option maxHeartbeats 1000000 in
set_option maxRecDepth 100000 in
theorem did_none (w : World) (b : Nat) (k on A B : Int) (v : Int) (aT aF : Option Addr) (lenT capT lenF capF : Nat) (dn : Bool) (h3 : k ≠ 3) (h4 : k ≠ 4) (h5 : k ≠ 5) (h7 : k ≠ 7) (h8 : k ≠ 8) :
    Calls Try.prog 21 #[.pointer (some ⟨b, 0, none⟩), .agg #[.int .i64 k, .int .i64 on, .int .i64 A, .int .i64 B, .int .u8 v, .slice aT lenT capT, .slice aF lenF capF, .bool dn]] w fun e w' => e = .returned (.int .i64 0) ∧ Below w.heap.size w w' := by
  have e3 : (k == 3) = false := by simpa using h3
  have e4 : (k == 4) = false := by simpa using h4
  have e5 : (k == 5) = false := by simpa using h5
  have e7 : (k == 7) = false := by simpa using h7
  have e8 : (k == 8) = false := by simpa using h8
  clear h3 h4 h5 h7 h8
  go_enter Try.func21, Try.ntmps21
  go_wp2
  go_ret
  exact ⟨rfl, (Below.refl _ _).alloc (Nat.le_refl _) _⟩
end Go.Proofs.Ytphnajphgiinfaa
