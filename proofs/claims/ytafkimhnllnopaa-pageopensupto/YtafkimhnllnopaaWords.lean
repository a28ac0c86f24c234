/- The words' operations as the program does them; the smallest functions: timesX, step, pick. -/
import Derived.Test.YtafkimhnllnopaaProg
import Derived.Test.YtafkimhnllnopaaPoly
import Derived.WalkKit
import Derived.KernelRfl
import Derived.Laws.BitsAllLaws
namespace Go.Proofs.Ytafkimhnllnopaa
open Go.RowKit

theorem ret_int {k : IntKind} {a b : Int} (h : a = b) : Ending.returned (.int k a) = .returned (.int k b) := by rw [h]
theorem word_lt (x : BitVec 64) : x.toNat < 18446744073709551616 := x.isLt
theorem xor64 (x y : BitVec 64) : bits .xor .u64 (x.toNat : Int) (y.toNat : Int) = ((x ^^^ y).toNat : Int) := by
  rw [u64_xor_nat _ _ (word_lt x) (word_lt y), BitVec.toNat_xor]
theorem and64 (x y : BitVec 64) : bits .and .u64 (x.toNat : Int) (y.toNat : Int) = ((x &&& y).toNat : Int) := by
  rw [u64_and_nat _ _ (word_lt x) (word_lt y), BitVec.toNat_and]
theorem wrap64u (n : Int) : IntKind.u64.wrap n = n % 18446744073709551616 := by simp [IntKind.wrap, IntKind.bits, IntKind.signed]
theorem neg64 (x : BitVec 64) : IntKind.u64.wrap (-(x.toNat : Int)) = ((-x).toNat : Int) := by
  rw [wrap64u, BitVec.toNat_neg]
  have := word_lt x
  omega
theorem shr64 (x : BitVec 64) (k : Nat) : (x.toNat : Int) / 2 ^ k = ((x >>> k).toNat : Int) := by
  rw [BitVec.toNat_ushiftRight, Nat.shiftRight_eq_div_pow]
  simp
theorem shl64 (x : BitVec 64) : IntKind.u64.wrap ((x.toNat : Int) * 2) = ((x <<< 1).toNat : Int) := by
  rw [wrap64u, BitVec.toNat_shiftLeft, Nat.shiftLeft_eq]
  omega
theorem not64 (x : BitVec 64) : bits .xor .u64 18446744073709551615 (x.toNat : Int) = ((~~~ x).toNat : Int) := by
  have h : (18446744073709551615 : Int) = (((18446744073709551615#64) : BitVec 64).toNat : Int) := by decide
  rw [h, xor64]
  have : (18446744073709551615#64) = BitVec.allOnes 64 := by decide
  rw [this, BitVec.allOnes_xor]

theorem T_by (x : BitVec 64) : (x >>> 1) ^^^ (P &&& -(x &&& 1#64)) = T x := by
  unfold T
  congr 1
  have h : x &&& 1#64 = if x.getLsbD 0 then 1#64 else 0#64 := by
    apply BitVec.eq_of_getLsbD_eq
    intro i hi
    cases i with
    | zero => cases e : x.getLsbD 0 <;> simp_all
    | succ i => cases e : x.getLsbD 0 <;> simp
  rw [h]
  cases x.getLsbD 0 <;> decide

theorem T_int (x : BitVec 64) : bits .xor .u64 ((x.toNat : Int) / 2) (bits .and .u64 14514072000185962306 (IntKind.u64.wrap (-bits .and .u64 (x.toNat : Int) 1))) = ((T x).toNat : Int) := by
  have h1 : (1 : Int) = ((1#64).toNat : Int) := by decide
  have hp : (14514072000185962306 : Int) = (P.toNat : Int) := by decide
  have h2 : (x.toNat : Int) / (2 : Int) = ((x >>> 1).toNat : Int) := shr64 x 1
  rw [h1, hp, h2, and64, neg64, and64, xor64, T_by]

theorem timesX_any (x : BitVec 64) (w : World) :
    Calls Try.prog 46 #[.int .u64 (x.toNat : Int)] w fun e w' => e = .returned (.int .u64 ((T x).toNat : Int)) ∧ w' = w := by
  go_enter Try.func46, Try.ntmps46
  go_wp2
  go_ret
  exact ⟨ret_int (T_int x), rfl⟩

/-! The document's side: the highest bit is the coefficient of x^63. -/
def R : BitVec 64 := 0x42f0e1eba9ea3693#64
def bitw (b : Bool) : BitVec 64 := if b then 1#64 else 0#64
def bitz (b : Bool) : Int := if b then 1 else 0
def stepR (x : BitVec 64) (b : Bool) : BitVec 64 := ((x <<< 1) ^^^ bitw b) ^^^ (if x.msb then R else 0#64)

theorem shl_bit (x : BitVec 64) (b : Bool) : IntKind.u64.wrap (IntKind.u64.wrap (2 * (x.toNat : Int)) + bitz b) = (((x <<< 1) ^^^ bitw b).toNat : Int) := by
  cases b with
  | false =>
    have := shl64 x
    rw [Int.mul_comm] at this
    rw [this]
    simp only [bitz, bitw, Bool.false_eq_true, if_false, BitVec.xor_zero, Int.add_zero]
    rw [wrap64u]
    have := word_lt (x <<< 1)
    omega
  | true =>
    have := shl64 x
    rw [Int.mul_comm] at this
    rw [this]
    simp only [bitz, bitw, if_true]
    have h2 : (x <<< 1).toNat % 2 = 0 := by rw [BitVec.toNat_shiftLeft, Nat.shiftLeft_eq]; omega
    have h3 : ((x <<< 1) ^^^ 1#64).toNat = (x <<< 1).toNat + 1 := by
      rw [BitVec.toNat_xor]
      have : (1#64).toNat = 1 := rfl
      rw [this]
      have e : (x <<< 1).toNat = 2 * ((x <<< 1).toNat / 2) := by omega
      rw [e]
      apply Nat.eq_of_testBit_eq
      intro i
      cases i with
      | zero => simp [Nat.testBit_zero]
      | succ i =>
        rw [Nat.testBit_xor, Nat.testBit_succ, Nat.testBit_succ (x := 1), Nat.testBit_succ (x := _ + 1)]
        have h1 : 2 * ((x <<< 1).toNat / 2) / 2 = (x <<< 1).toNat / 2 := by omega
        have h2 : (2 * ((x <<< 1).toNat / 2) + 1) / 2 = (x <<< 1).toNat / 2 := by omega
        rw [h1, h2]
        simp
    rw [h3, wrap64u]
    have := word_lt (x <<< 1)
    omega

theorem msb_is (x : BitVec 64) : x.msb = decide (9223372036854775808 ≤ (x.toNat : Int)) := by
  rw [BitVec.msb_eq_decide]
  simp
  omega

theorem step_any (x : BitVec 64) (b : Bool) (w : World) :
    Calls Try.prog 44 #[.int .u64 (x.toNat : Int), .int .u64 (bitz b)] w fun e w' => e = .returned (.int .u64 ((stepR x b).toNat : Int)) ∧ w' = w := by
  by_cases h : 9223372036854775808 ≤ (x.toNat : Int)
  · have HE : Hid (bits .xor .u64 (IntKind.u64.wrap (IntKind.u64.wrap (2 * (x.toNat : Int)) + bitz b)) 4823603603198064275 = ((stepR x b).toNat : Int)) := by
      show _ = _
      rw [shl_bit, show (4823603603198064275 : Int) = (R.toNat : Int) by decide, xor64, stepR, msb_is, decide_eq_true h, if_pos rfl]
    go_enter Try.func44, Try.ntmps44
    go_wp2
    go_ret
    exact ⟨ret_int HE.out, rfl⟩
  · have HE : Hid (IntKind.u64.wrap (2 * (x.toNat : Int) + bitz b) = ((stepR x b).toNat : Int)) := by
      show _ = _
      have e : 2 * (x.toNat : Int) = IntKind.u64.wrap (2 * (x.toNat : Int)) := by rw [wrap64u]; omega
      rw [e, shl_bit, stepR, msb_is, decide_eq_false h]
      simp
    go_enter Try.func44, Try.ntmps44
    go_wp2
    go_ret
    exact ⟨ret_int HE.out, rfl⟩
end Go.Proofs.Ytafkimhnllnopaa
