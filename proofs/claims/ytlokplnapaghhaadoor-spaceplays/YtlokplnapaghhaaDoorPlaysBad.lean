/- SpacePlays's walk where a number is bad. -/
import Derived.Test.YtlokplnapaghhaaDoorPlays
import Derived.Test.YtlokplnapaghhaaDoorOpsIn
import Derived.Test.YtlokplnapaghhaaDoorRefEnc2
namespace Go.Proofs.YtlokplnapaghhaaDoor
open Go.RowKit

theorem OpIn.below {w w' : World} {g off : Nat} {o : OpV} (h : OpIn w g off o) (hg : g < w.heap.size) (hb : Below w.heap.size w w') : OpIn w' g off o :=
  ⟨by rw [hb.cell hg]; exact h.c0, by rw [hb.cell hg]; exact h.c1, by rw [hb.cell hg]; exact h.c2, by rw [hb.cell hg]; exact h.c3, h.bytes.here hb, h.le, h.nil, h.short⟩
theorem newOk_nat {b u : Int} (h : newOk b u = true) : ∃ n m : Nat, b = n ∧ u = m ∧ 16 ≤ n ∧ n ≤ 65536 ∧ m ≤ n := by
  simp only [newOk, Bool.and_eq_true, decide_eq_true_eq] at h
  exact ⟨b.toNat, u.toNat, by omega, by omega, by omega, by omega, by omega⟩
set_option maxHeartbeats 2000000 in
set_option maxRecDepth 100000 in
theorem plays_ff (w : World) (ht : Tab w) (blocks used other taken : Int) (v : Value) (h : newOk blocks used = false) (k : newOk other taken = false) :
    Calls Tryd.prog 4 #[.int .i64 blocks, .int .i64 used, .int .i64 other, .int .i64 taken, v] w fun e w' => e = .returned (.bool true) ∧ Below w.heap.size w w' := by
  have HA := alive_any w ht
  clear ht
  have HN1 : ∀ W, Below w.heap.size w W → Calls Tryd.prog 9 #[.int .i64 blocks, .int .i64 used] W fun e w' => e = .returned (.tuple #[.pointer none, .int .i64 1]) ∧ Below w.heap.size w w' := fun W hW => (new_bad W blocks used h).mono (by rintro e w' ⟨h1, rfl⟩; exact ⟨h1, hW⟩)
  have HR1 : ∀ W, Below w.heap.size w W → Calls Tryd.prog 10 #[.int .i64 blocks, .int .i64 used] W fun e w' => e = .returned (.tuple #[.pointer none, .int .i64 1]) ∧ Below w.heap.size w w' := fun W hW => (rnew_bad W blocks used h).mono (by rintro e w' ⟨h1, rfl⟩; exact ⟨h1, hW⟩)
  clear h
  have HN2 : ∀ W, Below w.heap.size w W → Calls Tryd.prog 9 #[.int .i64 other, .int .i64 taken] W fun e w' => e = .returned (.tuple #[.pointer none, .int .i64 1]) ∧ Below w.heap.size w w' := fun W hW => (new_bad W other taken k).mono (by rintro e w' ⟨h1, rfl⟩; exact ⟨h1, hW⟩)
  have HR2 : ∀ W, Below w.heap.size w W → Calls Tryd.prog 10 #[.int .i64 other, .int .i64 taken] W fun e w' => e = .returned (.tuple #[.pointer none, .int .i64 1]) ∧ Below w.heap.size w w' := fun W hW => (rnew_bad W other taken k).mono (by rintro e w' ⟨h1, rfl⟩; exact ⟨h1, hW⟩)
  clear k
  go_enter Tryd.func4, Tryd.ntmps4
  go_wp2_with (first
      | (go_at_call 8; refine HA.mono ?_; rintro e w1 ⟨rfl, hb⟩; have HB1 : Hid (Below w.heap.size w w1) := hb; clear hb)
      | (go_at_call 9; refine (HN1 w1 HB1.out).mono ?_; rintro e w2 ⟨rfl, hb⟩; have HB2 : Hid (Below w.heap.size w w2) := hb; clear hb HN1)
      | (go_at_call 9; refine (HN2 w2 HB2.out).mono ?_; rintro e w3 ⟨rfl, hb⟩; have HB3 : Hid (Below w.heap.size w w3) := hb; clear hb HN2)
      | (go_at_call 10; refine (HR1 w3 HB3.out).mono ?_; rintro e w4 ⟨rfl, hb⟩; have HB4 : Hid (Below w.heap.size w w4) := hb; clear hb HR1)
      | (go_at_call 10; refine (HR2 w4 HB4.out).mono ?_; rintro e w5 ⟨rfl, hb⟩; have HB5 : Hid (Below w.heap.size w w5) := hb; clear hb HR2))
  go_ret
  exact ⟨rfl, HB5.out⟩
set_option maxHeartbeats 2000000 in
set_option maxRecDepth 100000 in
theorem plays_ft (w : World) (ht : Tab w) (blocks used other taken : Int) (v : Value) (h : newOk blocks used = false) (k : newOk other taken = true) :
    Calls Tryd.prog 4 #[.int .i64 blocks, .int .i64 used, .int .i64 other, .int .i64 taken, v] w fun e w' => e = .returned (.bool true) ∧ Below w.heap.size w w' := by
  have HA := alive_any w ht
  clear ht
  have HN1 : ∀ W, Below w.heap.size w W → Calls Tryd.prog 9 #[.int .i64 blocks, .int .i64 used] W fun e w' => e = .returned (.tuple #[.pointer none, .int .i64 1]) ∧ Below w.heap.size w w' := fun W hW => (new_bad W blocks used h).mono (by rintro e w' ⟨h1, rfl⟩; exact ⟨h1, hW⟩)
  have HR1 : ∀ W, Below w.heap.size w W → Calls Tryd.prog 10 #[.int .i64 blocks, .int .i64 used] W fun e w' => e = .returned (.tuple #[.pointer none, .int .i64 1]) ∧ Below w.heap.size w w' := fun W hW => (rnew_bad W blocks used h).mono (by rintro e w' ⟨h1, rfl⟩; exact ⟨h1, hW⟩)
  clear h
  obtain ⟨n2, m2, rfl, rfl, q1, q2, q3⟩ := newOk_nat k
  have HN2 : ∀ W, Below w.heap.size w W → Calls Tryd.prog 9 #[.int .i64 n2, .int .i64 m2] W fun e w' => (∃ g, e = .returned (.tuple #[.pointer (some ⟨g, 0, none⟩), .int .i64 0])) ∧ Below w.heap.size w w' := fun W hW => (new_ok W n2 m2 q1 q2 q3).mono (by rintro e w' ⟨h1, _, h3⟩; exact ⟨⟨_, h1⟩, hW.trans (h3.mono hW.size)⟩)
  have HR2 : ∀ W, Below w.heap.size w W → Calls Tryd.prog 10 #[.int .i64 n2, .int .i64 m2] W fun e w' => (∃ g, e = .returned (.tuple #[.pointer (some ⟨g, 0, none⟩), .int .i64 0])) ∧ Below w.heap.size w w' := fun W hW => (rnew_ok W n2 m2 q1 q2 q3).mono (by rintro e w' ⟨b, h1, _, h3⟩; exact ⟨⟨_, h1⟩, hW.trans (h3.mono hW.size)⟩)
  clear k q1 q2 q3
  go_enter Tryd.func4, Tryd.ntmps4
  go_wp2_with (first
      | (go_at_call 8; refine HA.mono ?_; rintro e w1 ⟨rfl, hb⟩; have HB1 : Hid (Below w.heap.size w w1) := hb; clear hb)
      | (go_at_call 9; refine (HN1 w1 HB1.out).mono ?_; rintro e w2 ⟨rfl, hb⟩; have HB2 : Hid (Below w.heap.size w w2) := hb; clear hb HN1)
      | (go_at_call 9; refine (HN2 w2 HB2.out).mono ?_; rintro e w3 ⟨⟨g3, rfl⟩, hb⟩; have HB3 : Hid (Below w.heap.size w w3) := hb; clear hb HN2)
      | (go_at_call 10; refine (HR1 w3 HB3.out).mono ?_; rintro e w4 ⟨rfl, hb⟩; have HB4 : Hid (Below w.heap.size w w4) := hb; clear hb HR1)
      | (go_at_call 10; refine (HR2 w4 HB4.out).mono ?_; rintro e w5 ⟨⟨g5, rfl⟩, hb⟩; have HB5 : Hid (Below w.heap.size w w5) := hb; clear hb HR2))
  go_ret
  exact ⟨rfl, HB5.out⟩
set_option maxHeartbeats 2000000 in
set_option maxRecDepth 100000 in
theorem plays_tf (w : World) (ht : Tab w) (blocks used other taken : Int) (v : Value) (h : newOk blocks used = true) (k : newOk other taken = false) :
    Calls Tryd.prog 4 #[.int .i64 blocks, .int .i64 used, .int .i64 other, .int .i64 taken, v] w fun e w' => e = .returned (.bool true) ∧ Below w.heap.size w w' := by
  have HA := alive_any w ht
  clear ht
  obtain ⟨n1, m1, rfl, rfl, q1, q2, q3⟩ := newOk_nat h
  have HN1 : ∀ W, Below w.heap.size w W → Calls Tryd.prog 9 #[.int .i64 n1, .int .i64 m1] W fun e w' => (∃ g, e = .returned (.tuple #[.pointer (some ⟨g, 0, none⟩), .int .i64 0])) ∧ Below w.heap.size w w' := fun W hW => (new_ok W n1 m1 q1 q2 q3).mono (by rintro e w' ⟨h1, _, h3⟩; exact ⟨⟨_, h1⟩, hW.trans (h3.mono hW.size)⟩)
  have HR1 : ∀ W, Below w.heap.size w W → Calls Tryd.prog 10 #[.int .i64 n1, .int .i64 m1] W fun e w' => (∃ g, e = .returned (.tuple #[.pointer (some ⟨g, 0, none⟩), .int .i64 0])) ∧ Below w.heap.size w w' := fun W hW => (rnew_ok W n1 m1 q1 q2 q3).mono (by rintro e w' ⟨b, h1, _, h3⟩; exact ⟨⟨_, h1⟩, hW.trans (h3.mono hW.size)⟩)
  clear h q1 q2 q3
  have HN2 : ∀ W, Below w.heap.size w W → Calls Tryd.prog 9 #[.int .i64 other, .int .i64 taken] W fun e w' => e = .returned (.tuple #[.pointer none, .int .i64 1]) ∧ Below w.heap.size w w' := fun W hW => (new_bad W other taken k).mono (by rintro e w' ⟨h1, rfl⟩; exact ⟨h1, hW⟩)
  have HR2 : ∀ W, Below w.heap.size w W → Calls Tryd.prog 10 #[.int .i64 other, .int .i64 taken] W fun e w' => e = .returned (.tuple #[.pointer none, .int .i64 1]) ∧ Below w.heap.size w w' := fun W hW => (rnew_bad W other taken k).mono (by rintro e w' ⟨h1, rfl⟩; exact ⟨h1, hW⟩)
  clear k
  go_enter Tryd.func4, Tryd.ntmps4
  go_wp2_with (first
      | (go_at_call 8; refine HA.mono ?_; rintro e w1 ⟨rfl, hb⟩; have HB1 : Hid (Below w.heap.size w w1) := hb; clear hb)
      | (go_at_call 9; refine (HN1 w1 HB1.out).mono ?_; rintro e w2 ⟨⟨g2, rfl⟩, hb⟩; have HB2 : Hid (Below w.heap.size w w2) := hb; clear hb HN1)
      | (go_at_call 9; refine (HN2 w2 HB2.out).mono ?_; rintro e w3 ⟨rfl, hb⟩; have HB3 : Hid (Below w.heap.size w w3) := hb; clear hb HN2)
      | (go_at_call 10; refine (HR1 w3 HB3.out).mono ?_; rintro e w4 ⟨⟨g4, rfl⟩, hb⟩; have HB4 : Hid (Below w.heap.size w w4) := hb; clear hb HR1)
      | (go_at_call 10; refine (HR2 w4 HB4.out).mono ?_; rintro e w5 ⟨rfl, hb⟩; have HB5 : Hid (Below w.heap.size w w5) := hb; clear hb HR2))
  go_ret
  exact ⟨rfl, HB5.out⟩
end Go.Proofs.YtlokplnapaghhaaDoor
