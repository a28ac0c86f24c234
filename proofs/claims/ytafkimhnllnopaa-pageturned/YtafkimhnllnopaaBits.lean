/- pick; bits of a text that are turned within 64 that stand together. -/
import Derived.Test.YtafkimhnllnopaaAlive
import Derived.BigRegion
namespace Go.Proofs.Ytafkimhnllnopaa
open Go.RowKit

/-- Which of n things the raw number c speaks of. -/
def pickOf (c n : Int) : Int := (if c < 0 then -(c + 1) else c) % n
theorem pickOf_range (c n : Int) (hn : 0 < n) : 0 ≤ pickOf c n ∧ pickOf c n < n := ⟨Int.emod_nonneg _ (by omega), Int.emod_lt_of_pos _ hn⟩
theorem neg_wrapped (c : Int) (h0 : c < 0) (h1 : -9223372036854775808 ≤ c) : wrap64 (-(wrap64 (c + 1))) = -(c + 1) := by
  unfold wrap64
  omega
theorem i64_bounds {c : Int} (h : (Lit.int .i64 c).wf = true) : -9223372036854775808 ≤ c ∧ c ≤ 9223372036854775807 := by
  simpa [Lit.wf, IntKind.min, IntKind.max, IntKind.bits, IntKind.signed] using h

theorem pick_any (c n : Int) (w : World) (hc : (Lit.int .i64 c).wf = true) (hn : 0 < n) (hn2 : n ≤ 1099511627776) :
    Calls Try.prog 21 #[.int .i64 c, .int .i64 n] w fun e w' => e = .returned (.int .i64 (pickOf c n)) ∧ w' = w := by
  have hb := i64_bounds hc
  have HB : Hid (-9223372036854775808 ≤ c ∧ c ≤ 9223372036854775807) := hb
  clear hb hc
  have hz : (n == 0) = false := by rw [beq_eq_false_iff_ne]; omega
  have hz1 : (n == -1) = false := by rw [beq_eq_false_iff_ne]; omega
  by_cases h : c < 0
  · have e : (wrap64 (-wrap64 (c + 1))).tmod n = pickOf c n := by
      have hc := HB.out
      rw [neg_wrapped c h hc.1]
      unfold pickOf
      rw [if_pos h, Int.tmod_eq_emod_of_nonneg (by omega)]
    have HE : Hid _ := e
    clear e
    go_enter Try.func21, Try.ntmps21
    go_wp2
    go_ret
    exact ⟨ret_int HE.out, rfl⟩
  · have e : c % n = pickOf c n := by unfold pickOf; rw [if_neg h]
    have HE : Hid _ := e
    clear e
    go_enter Try.func21, Try.ntmps21
    go_wp2
    go_ret
    exact ⟨ret_int HE.out, rfl⟩

/-- The bits below i of a word. -/
def lowBits (run : BitVec 64) : Nat → BitVec 64
  | 0 => 0#64
  | i + 1 => lowBits run i ^^^ (if run.getLsbD i then one i else 0#64)
theorem lowBits_bit (run : BitVec 64) (i j : Nat) (hj : j < 64) : (lowBits run i).getLsbD j = (decide (j < i) && run.getLsbD j) := by
  induction i with
  | zero => simp [lowBits]
  | succ i ih =>
    simp only [lowBits, BitVec.getLsbD_xor, ih]
    by_cases e : j = i
    · subst e
      have h1 : ¬ j < j := by omega
      have h2 : j < j + 1 := by omega
      simp only [h1, h2, decide_false, decide_true, Bool.false_and, Bool.true_and, Bool.false_xor]
      cases run.getLsbD j
      · simp
      · simp [one_bit _ _ hj]
    · have h1 : (if run.getLsbD i = true then one i else 0#64).getLsbD j = false := by
        cases run.getLsbD i
        · simp
        · simp [one_bit _ _ hj]; omega
      rw [h1, Bool.xor_false]
      by_cases h : j < i
      · rw [decide_eq_true h, decide_eq_true (by omega)]
      · rw [decide_eq_false h, decide_eq_false (by omega)]
theorem lowBits_set (run : BitVec 64) (i : Nat) (hi : i < 64) (h : run.getLsbD i = true) : lowBits run (i + 1) ≠ 0#64 := fun e => by
  have := lowBits_bit run (i + 1) i hi
  rw [e, h] at this
  simp at this
theorem lowBits_same (run : BitVec 64) (i : Nat) (h : run.getLsbD i = false) : lowBits run (i + 1) = lowBits run i := by
  simp [lowBits, h]

/-- One bit of a text turned, seen from the first that may be. -/
theorem flip_window (s : BitVec 64) (bs cs : List UInt8) (run : BitVec 64) (frm i : Nat) (hl : cs.length = bs.length) (hi : i < 64) (hin : frm + i < 8 * bs.length) (hr : run.getLsbD i = true)
    (c : UInt8) (hc : cs[(frm + i) / 8]? = some c) (d : UInt8) (hd : wide d = one ((frm + i) % 8))
    (h : F s cs = F s bs ^^^ Tn (8 * bs.length - frm) (lowBits run i)) :
    F s (cs.set ((frm + i) / 8) (c ^^^ d)) = F s bs ^^^ Tn (8 * bs.length - frm) (lowBits run (i + 1)) := by
  rw [F_flip s cs _ c d hc, h, hl, hd, lowBits, hr, if_pos rfl, Tn_xor, ← BitVec.xor_assoc]
  congr 1
  by_cases hij : (frm + i) % 8 ≤ i
  · have e1 : 8 * bs.length - frm = 8 * (bs.length - (frm + i) / 8) + (i - (frm + i) % 8) := by omega
    have e2 := Tn_one (i - (frm + i) % 8) ((frm + i) % 8) (by omega)
    rw [show i - (frm + i) % 8 + (frm + i) % 8 = i by omega] at e2
    rw [e1, Tn_add, e2]
  · have e1 : 8 * (bs.length - (frm + i) / 8) = 8 * bs.length - frm + ((frm + i) % 8 - i) := by omega
    have e2 := Tn_one ((frm + i) % 8 - i) i (by omega)
    rw [show (frm + i) % 8 - i + i = (frm + i) % 8 by omega] at e2
    rw [e1, Tn_add, e2]
theorem turned_sum (bs cs : List UInt8) (k : Nat) (D : BitVec 64) (h : F (~~~ (0#64)) cs = F (~~~ (0#64)) bs ^^^ Tn k D) : (sumMore 0#64 bs = sumMore 0#64 cs) ↔ D = 0#64 := by
  unfold sumMore
  rw [h]
  constructor
  · intro e
    have e1 : F (~~~ (0#64)) bs = F (~~~ (0#64)) bs ^^^ Tn k D := by
      have := congrArg (fun v => ~~~ v) e
      simpa using this
    have e2 : Tn k D = 0#64 := by
      have := congrArg (fun v => F (~~~ (0#64)) bs ^^^ v) e1
      simp only [← BitVec.xor_assoc, BitVec.xor_self, BitVec.zero_xor] at this
      exact this.symm
    exact Tn_null e2
  · intro e
    rw [e, Tn_zero]
    simp

theorem run_bit (run : BitVec 64) (k : Nat) : ((((run.toNat : Int) / 2 ^ k).tmod 2 == 1) : Bool) = run.getLsbD k := by
  have e : (run.toNat : Int) / 2 ^ k = ((run.toNat / 2 ^ k : Nat) : Int) := by simp
  rw [e, ← BitVec.testBit_toNat, Nat.testBit_eq_decide_div_mod_eq]
  generalize run.toNat / 2 ^ k = m
  rw [Int.tmod_eq_emod_of_nonneg (by omega)]
  by_cases h : m % 2 = 1
  · rw [decide_eq_true h, beq_iff_eq]
    omega
  · rw [decide_eq_false h, beq_eq_false_iff_ne]
    omega
theorem bit_byte (r : Nat) (h : r < 8) : ∃ d : UInt8, wide d = one r ∧ ∀ c : UInt8, bits .xor .u8 (c.toNat : Int) (2 ^ r % 256) = ((c ^^^ d).toNat : Int) := by
  have hp : (2 : Nat) ^ r < 256 := by have := Nat.pow_lt_pow_right (a := 2) (by decide) h; simpa using this
  have hd : (UInt8.ofNat (2 ^ r)).toNat = 2 ^ r := by rw [UInt8.toNat_ofNat', Nat.mod_eq_of_lt hp]
  refine ⟨UInt8.ofNat (2 ^ r), ?_, fun c => ?_⟩
  · unfold wide one
    rw [hd]
    apply BitVec.eq_of_toNat_eq
    simp [Nat.shiftLeft_eq]
  · have e : ((2 : Int) ^ r % 256) = ((UInt8.ofNat (2 ^ r)).toNat : Int) := by
      rw [hd]
      have : ((2 ^ r : Nat) : Int) = (2 : Int) ^ r := by simp
      rw [← this]
      omega
    rw [e, xor_byte]

end Go.Proofs.Ytafkimhnllnopaa
