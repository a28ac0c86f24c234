/- Bytes the other way round: math/bits.ReverseBytes64; the sum of a page as it is laid down; a copy of bytes. -/
import Derived.Test.YtafkimhnllnopaaSmall
namespace Go.Proofs.Ytafkimhnllnopaa
open Go.RowKit

def m1 : BitVec 64 := 71777214294589695#64
def m2 : BitVec 64 := 281470681808895#64
def rb1 (x : BitVec 64) : BitVec 64 := ((x >>> 8) &&& m1) ||| ((x &&& m1) <<< 8)
def rb2 (x : BitVec 64) : BitVec 64 := ((x >>> 16) &&& m2) ||| ((x &&& m2) <<< 16)
def rb3 (x : BitVec 64) : BitVec 64 := (x >>> 32) ||| (x <<< 32)
def rb (x : BitVec 64) : BitVec 64 := rb3 (rb2 (rb1 x))

theorem or64 (x y : BitVec 64) : bits .or .u64 (x.toNat : Int) (y.toNat : Int) = ((x ||| y).toNat : Int) := by
  rw [u64_or_nat _ _ (word_lt x) (word_lt y), BitVec.toNat_or]
theorem shlk64 (x : BitVec 64) (k : Nat) : IntKind.u64.wrap ((x.toNat : Int) * 2 ^ k) = ((x <<< k).toNat : Int) := by
  rw [wrap64u, BitVec.toNat_shiftLeft, Nat.shiftLeft_eq]
  have : ((x.toNat * 2 ^ k : Nat) : Int) = (x.toNat : Int) * 2 ^ k := by simp
  rw [← this]
  have e : (2 : Nat) ^ 64 = 18446744073709551616 := rfl
  rw [e]
  omega
theorem rb1_int (x : BitVec 64) : bits .or .u64 (bits .and .u64 ((x.toNat : Int) / 256) 71777214294589695) (IntKind.u64.wrap (bits .and .u64 (x.toNat : Int) 71777214294589695 * 256)) = ((rb1 x).toNat : Int) := by
  have hm : (71777214294589695 : Int) = (m1.toNat : Int) := by decide
  have h2 : (x.toNat : Int) / (256 : Int) = ((x >>> 8).toNat : Int) := shr64 x 8
  have h3 : IntKind.u64.wrap (((x &&& m1).toNat : Int) * 256) = (((x &&& m1) <<< 8).toNat : Int) := shlk64 _ 8
  rw [hm, h2, and64, and64, h3, or64]
  rfl
theorem rb2_int (x : BitVec 64) : bits .or .u64 (bits .and .u64 ((x.toNat : Int) / 65536) 281470681808895) (IntKind.u64.wrap (bits .and .u64 (x.toNat : Int) 281470681808895 * 65536)) = ((rb2 x).toNat : Int) := by
  have hm : (281470681808895 : Int) = (m2.toNat : Int) := by decide
  have h2 : (x.toNat : Int) / (65536 : Int) = ((x >>> 16).toNat : Int) := shr64 x 16
  have h3 : IntKind.u64.wrap (((x &&& m2).toNat : Int) * 65536) = (((x &&& m2) <<< 16).toNat : Int) := shlk64 _ 16
  rw [hm, h2, and64, and64, h3, or64]
  rfl
theorem rb3_int (x : BitVec 64) : bits .or .u64 ((x.toNat : Int) / 4294967296) (IntKind.u64.wrap ((x.toNat : Int) * 4294967296)) = ((rb3 x).toNat : Int) := by
  have h2 : (x.toNat : Int) / (4294967296 : Int) = ((x >>> 32).toNat : Int) := shr64 x 32
  have h3 : IntKind.u64.wrap ((x.toNat : Int) * 4294967296) = ((x <<< 32).toNat : Int) := shlk64 _ 32
  rw [h2, h3, or64]
  rfl

theorem rev8_any (x : BitVec 64) (w : World) : Calls Try.prog 34 #[.int .u64 (x.toNat : Int)] w fun e w' => e = .returned (.int .u64 ((rb x).toNat : Int)) ∧ w' = w := by
  go_enter Try.func34, Try.ntmps34
  go_wp2
  go_ret
  refine ⟨ret_int ?_, rfl⟩
  rw [rb1_int, rb2_int, rb3_int]
  rfl

/-! What it does to the bits. -/
theorem m1_bit : ∀ i : Fin 64, m1.getLsbD i.val = decide (i.val / 8 % 2 = 0) := by decide
theorem m2_bit : ∀ i : Fin 64, m2.getLsbD i.val = decide (i.val / 16 % 2 = 0) := by decide
theorem rb1_bit (x : BitVec 64) (i : Nat) (hi : i < 64) : (rb1 x).getLsbD i = x.getLsbD (if i / 8 % 2 = 0 then i + 8 else i - 8) := by
  unfold rb1
  rw [BitVec.getLsbD_or, BitVec.getLsbD_and, BitVec.getLsbD_ushiftRight, BitVec.getLsbD_shiftLeft, BitVec.getLsbD_and, m1_bit ⟨i, hi⟩, m1_bit ⟨i - 8, by omega⟩]
  simp only
  by_cases h : i / 8 % 2 = 0
  · have h2 : i < 8 ∨ ¬ ((i - 8) / 8 % 2 = 0) := by omega
    rw [if_pos h, decide_eq_true h, Nat.add_comm 8]
    rcases h2 with h2 | h2
    · simp [h2]
    · rw [decide_eq_false h2]; simp
  · have h2 : (i - 8) / 8 % 2 = 0 := by omega
    have h3 : ¬ i < 8 := by omega
    rw [if_neg h, decide_eq_false h, decide_eq_true h2]
    simp [h3, hi]
theorem rb2_bit (x : BitVec 64) (i : Nat) (hi : i < 64) : (rb2 x).getLsbD i = x.getLsbD (if i / 16 % 2 = 0 then i + 16 else i - 16) := by
  unfold rb2
  rw [BitVec.getLsbD_or, BitVec.getLsbD_and, BitVec.getLsbD_ushiftRight, BitVec.getLsbD_shiftLeft, BitVec.getLsbD_and, m2_bit ⟨i, hi⟩, m2_bit ⟨i - 16, by omega⟩]
  simp only
  by_cases h : i / 16 % 2 = 0
  · have h2 : i < 16 ∨ ¬ ((i - 16) / 16 % 2 = 0) := by omega
    rw [if_pos h, decide_eq_true h, Nat.add_comm 16]
    rcases h2 with h2 | h2
    · simp [h2]
    · rw [decide_eq_false h2]; simp
  · have h2 : (i - 16) / 16 % 2 = 0 := by omega
    have h3 : ¬ i < 16 := by omega
    rw [if_neg h, decide_eq_false h, decide_eq_true h2]
    simp [h3, hi]
theorem rb3_bit (x : BitVec 64) (i : Nat) (hi : i < 64) : (rb3 x).getLsbD i = x.getLsbD (if i < 32 then i + 32 else i - 32) := by
  unfold rb3
  rw [BitVec.getLsbD_or, BitVec.getLsbD_ushiftRight, BitVec.getLsbD_shiftLeft]
  by_cases h : i < 32
  · rw [if_pos h, Nat.add_comm 32]; simp [h]
  · rw [if_neg h, BitVec.getLsbD_of_ge x (32 + i) (by omega)]; simp [h, hi]
theorem rb_bit (x : BitVec 64) (j t : Nat) (hj : j < 8) (ht : t < 8) : (rb x).getLsbD (8 * (7 - j) + t) = x.getLsbD (8 * j + t) := by
  unfold rb
  rw [rb3_bit _ _ (by omega)]
  have e1 : (if 8 * (7 - j) + t < 32 then 8 * (7 - j) + t + 32 else 8 * (7 - j) + t - 32) < 64 := by split <;> omega
  rw [rb2_bit _ _ e1]
  obtain ⟨a, ha⟩ : ∃ a, a = (if 8 * (7 - j) + t < 32 then 8 * (7 - j) + t + 32 else 8 * (7 - j) + t - 32) := ⟨_, rfl⟩
  rw [← ha] at e1 ⊢
  have e2 : (if a / 16 % 2 = 0 then a + 16 else a - 16) < 64 := by split <;> omega
  rw [rb1_bit _ _ e2]
  obtain ⟨b, hb⟩ : ∃ b, b = (if a / 16 % 2 = 0 then a + 16 else a - 16) := ⟨_, rfl⟩
  rw [← hb]
  congr 1
  split at ha <;> split at hb <;> split <;> omega

/-- The lowest byte first. -/
def le : Nat → BitVec 64 → List UInt8
  | 0, _ => []
  | k + 1, x => UInt8.ofNat x.toNat :: le k (x >>> 8)
theorem le_length (k : Nat) (x : BitVec 64) : (le k x).length = k := by
  induction k generalizing x with
  | zero => rfl
  | succ k ih => simp [le, ih]
theorem le_at (k : Nat) (x : BitVec 64) (j : Nat) (h : j < k) : (le k x)[j]? = some (UInt8.ofNat (x.toNat / 256 ^ j)) := by
  induction k generalizing x j with
  | zero => omega
  | succ k ih =>
    cases j with
    | zero => simp [le]
    | succ j =>
      rw [le, List.getElem?_cons_succ, ih (x >>> 8) j (by omega)]
      congr 2
      rw [BitVec.toNat_ushiftRight, Nat.shiftRight_eq_div_pow, Nat.div_div_eq_div_mul, show (2 : Nat) ^ 8 = 256 from rfl, Nat.mul_comm, ← Nat.pow_succ]
theorem be_at (k n : Nat) (j : Nat) (h : j < k) : (be k n)[j]? = some (UInt8.ofNat (n / 256 ^ (k - 1 - j))) := by
  induction k generalizing j with
  | zero => omega
  | succ k ih =>
    cases j with
    | zero => simp [be]
    | succ j =>
      rw [be, List.getElem?_cons_succ, ih j (by omega)]
      congr 4
      omega
theorem byte_same (m n i j : Nat) (h : ∀ t, t < 8 → m.testBit (8 * i + t) = n.testBit (8 * j + t)) : UInt8.ofNat (m / 256 ^ i) = UInt8.ofNat (n / 256 ^ j) := by
  apply UInt8.toNat_inj.1
  have e : ∀ q : Nat, (UInt8.ofNat q).toNat = q % 2 ^ 8 := fun q => UInt8.toNat_ofNat'
  rw [e, e]
  apply Nat.eq_of_testBit_eq
  intro t
  rw [Nat.testBit_mod_two_pow, Nat.testBit_mod_two_pow, show (256 : Nat) = 2 ^ 8 from rfl, ← Nat.pow_mul, ← Nat.pow_mul, Nat.testBit_div_two_pow, Nat.testBit_div_two_pow]
  by_cases ht : t < 8
  · rw [Nat.add_comm t, Nat.add_comm t, h t ht]
  · simp [ht]
theorem be_rb (x : BitVec 64) : be 8 (rb x).toNat = le 8 x := by
  apply List.ext_getElem?
  intro j
  by_cases h : j < 8
  · rw [be_at _ _ _ h, le_at _ _ _ h]
    congr 1
    apply byte_same
    intro t ht
    rw [BitVec.testBit_toNat, BitVec.testBit_toNat]
    exact rb_bit x j t h ht
  · rw [List.getElem?_eq_none (by rw [be_length]; omega), List.getElem?_eq_none (by rw [le_length]; omega)]

theorem wide_low (u : BitVec 64) : u = wide (UInt8.ofNat u.toNat) ^^^ ((u >>> 8) <<< 8) := by
  apply BitVec.eq_of_getLsbD_eq
  intro i hi
  rw [BitVec.getLsbD_xor, BitVec.getLsbD_shiftLeft, BitVec.getLsbD_ushiftRight]
  by_cases h : i < 8
  · have e : (wide (UInt8.ofNat u.toNat)).getLsbD i = u.getLsbD i := by
      unfold wide
      have e2 : (UInt8.ofNat u.toNat).toNat = u.toNat % 2 ^ 8 := UInt8.toNat_ofNat'
      rw [BitVec.getLsbD_ofNat, e2, Nat.testBit_mod_two_pow, BitVec.testBit_toNat]
      simp [h, hi]
    rw [e]
    simp [h]
  · rw [wide_bit _ _ (by omega), show 8 + (i - 8) = i by omega]
    simp [h, hi]
theorem F_le (k : Nat) (t u : BitVec 64) (h : u >>> (8 * k) = 0#64) : F t (le k u) = Tn (8 * k) (t ^^^ u) := by
  induction k generalizing t u with
  | zero =>
    have : u = 0#64 := by simpa using h
    rw [this]
    simp [le, Tn]
  | succ k ih =>
    have h1 : (u >>> 8) >>> (8 * k) = 0#64 := by rw [← BitVec.shiftRight_add, ← h]; congr 1; omega
    rw [le, F_cons, ih _ _ h1]
    have e : Tn 8 ((u >>> 8) <<< 8) = u >>> 8 := by
      rw [Tn_low 8 _ (fun i hi => by rw [BitVec.getLsbD_shiftLeft]; simp [hi])]
      apply BitVec.eq_of_getLsbD_eq
      intro i hi
      rw [BitVec.getLsbD_ushiftRight, BitVec.getLsbD_shiftLeft, BitVec.getLsbD_ushiftRight]
      by_cases hh : 8 + i < 64
      · simp [hh]
      · rw [BitVec.getLsbD_ushiftRight, BitVec.getLsbD_of_ge u (8 + i) (by omega)]
        simp [hh]
    have e2 : stepB t (UInt8.ofNat u.toNat) ^^^ (u >>> 8) = Tn 8 (t ^^^ u) := by
      have e3 : t ^^^ u = (t ^^^ wide (UInt8.ofNat u.toNat)) ^^^ ((u >>> 8) <<< 8) := by
        rw [BitVec.xor_assoc, ← wide_low]
      rw [e3, Tn_xor, e]
      rfl
    rw [e2, ← Tn_add]
    congr 1
/-- Whatever stands ahead, with its sum behind it all states are one. -/
def endState : BitVec 64 := Tn 64 (~~~ (0#64))
theorem F_sealed (B : List UInt8) : F (~~~ (0#64)) (B ++ be 8 (rb (sumMore 0#64 B)).toNat) = endState := by
  rw [be_rb, F_append, F_le 8 _ _ (by rw [show 8 * 8 = 64 from rfl]; exact BitVec.ushiftRight_eq_zero (Nat.le_refl _))]
  unfold sumMore endState
  congr 1
  generalize F (~~~ (0#64)) B = s
  rw [← not_xor, BitVec.xor_self]
end Go.Proofs.Ytafkimhnllnopaa
