/- Words of 64 bits as polynomials over two values, the highest bit the coefficient of 1: what one step, many steps, a product and a text's bytes make of them. -/
namespace Go.Proofs.Ytafkimhnllnopaa

def P : BitVec 64 := 0xc96c5795d7870f42#64
def T (s : BitVec 64) : BitVec 64 := (s >>> 1) ^^^ (if s.getLsbD 0 then P else 0#64)
def Tn : Nat → BitVec 64 → BitVec 64
  | 0, s => s
  | n + 1, s => T (Tn n s)
def E : BitVec 64 := 0x8000000000000000#64

theorem xor4 (a b c d : BitVec 64) : (a ^^^ b) ^^^ (c ^^^ d) = (a ^^^ c) ^^^ (b ^^^ d) := by
  ext i; simp; cases a[i] <;> cases b[i] <;> cases c[i] <;> cases d[i] <;> rfl

theorem T_xor (a b : BitVec 64) : T (a ^^^ b) = T a ^^^ T b := by
  unfold T
  rw [BitVec.ushiftRight_xor_distrib, BitVec.getLsbD_xor]
  rw [xor4]
  congr 1
  cases a.getLsbD 0 <;> cases b.getLsbD 0 <;> simp

theorem T_zero : T 0#64 = 0#64 := by decide
theorem Tn_zero (n : Nat) : Tn n 0#64 = 0#64 := by
  induction n with
  | zero => rfl
  | succ n ih => rw [Tn, ih, T_zero]
theorem Tn_xor (n : Nat) (a b : BitVec 64) : Tn n (a ^^^ b) = Tn n a ^^^ Tn n b := by
  induction n with
  | zero => rfl
  | succ n ih => rw [Tn, ih, T_xor]; rfl
theorem Tn_add (m n : Nat) (s : BitVec 64) : Tn (m + n) s = Tn m (Tn n s) := by
  induction m with
  | zero => simp [Tn]
  | succ m ih => rw [Nat.succ_add, Tn, ih]; rfl
theorem Tn_T (n : Nat) (s : BitVec 64) : Tn n (T s) = T (Tn n s) := by
  have h := Tn_add n 1 s
  have h' := Tn_add 1 n s
  rw [Nat.add_comm] at h
  rw [h] at h'
  exact h'

theorem T_null {a : BitVec 64} (h : T a = 0#64) : a = 0#64 := by
  have h63 : (T a).getLsbD 63 = false := by rw [h]; rfl
  have h0 : a.getLsbD 0 = false := by
    cases e : a.getLsbD 0 with
    | false => rfl
    | true =>
      exfalso
      simp only [T, e, if_true, BitVec.getLsbD_xor, BitVec.getLsbD_ushiftRight] at h63
      have hp : P.getLsbD 63 = true := by decide
      rw [hp, BitVec.getLsbD_of_ge a (1 + 63) (by decide)] at h63
      cases h63
  have hs : a >>> 1 = 0#64 := by
    have : T a = a >>> 1 := by unfold T; rw [h0]; simp
    rw [← this, h]
  apply BitVec.eq_of_getLsbD_eq
  intro i hi
  cases i with
  | zero => simpa using h0
  | succ i =>
    have := congrArg (fun v => v.getLsbD i) hs
    simp only [BitVec.getLsbD_ushiftRight] at this
    rw [Nat.add_comm i 1]
    simpa using this
theorem Tn_null {n : Nat} {a : BitVec 64} (h : Tn n a = 0#64) : a = 0#64 := by
  induction n with
  | zero => exact h
  | succ n ih => exact ih (T_null h)

theorem Tn_low (k : Nat) (s : BitVec 64) (h : ∀ i, i < k → s.getLsbD i = false) : Tn k s = s >>> k := by
  induction k with
  | zero => simp [Tn]
  | succ k ih =>
    rw [Tn, ih (fun i hi => h i (by omega)), T]
    have : (s >>> k).getLsbD 0 = false := by rw [BitVec.getLsbD_ushiftRight]; exact h k (by omega)
    rw [this, BitVec.shiftRight_add]
    simp

/-- One bit alone. -/
def one (i : Nat) : BitVec 64 := 1#64 <<< i
theorem one_bit (i j : Nat) (hj : j < 64) : (one i).getLsbD j = decide (i = j) := by
  unfold one
  rw [BitVec.getLsbD_shiftLeft]
  by_cases h : i = j
  · subst h; simp [hj]
  · by_cases hl : j < i
    · simp [hl, h]
    · simp [hl, hj, h]; omega
theorem Tn_one (a i : Nat) (h : a + i < 64) : Tn a (one (a + i)) = one i := by
  rw [Tn_low a _ (fun j hj => by rw [one_bit _ _ (by omega)]; simp; omega)]
  apply BitVec.eq_of_getLsbD_eq
  intro j hj
  rw [BitVec.getLsbD_ushiftRight, one_bit _ _ hj]
  by_cases hh : a + j < 64
  · rw [one_bit _ _ hh]; simp
  · rw [BitVec.getLsbD_of_ge _ _ (by omega)]; simp; omega

/-- A byte as a word. -/
def wide (c : UInt8) : BitVec 64 := BitVec.ofNat 64 c.toNat
theorem wide_bit (c : UInt8) (i : Nat) (h : 8 ≤ i) : (wide c).getLsbD i = false := by
  unfold wide
  rw [BitVec.getLsbD_ofNat, Nat.testBit_lt_two_pow (Nat.lt_of_lt_of_le (UInt8.toNat_lt c) (Nat.pow_le_pow_right (by decide) h))]
  simp
theorem wide_xor (a b : UInt8) : wide (a ^^^ b) = wide a ^^^ wide b := by
  unfold wide
  rw [UInt8.toNat_xor, BitVec.ofNat_xor]

def stepB (s : BitVec 64) (c : UInt8) : BitVec 64 := Tn 8 (s ^^^ wide c)
def F (s : BitVec 64) (bs : List UInt8) : BitVec 64 := bs.foldl stepB s
@[simp] theorem F_nil (s : BitVec 64) : F s [] = s := rfl
@[simp] theorem F_cons (s : BitVec 64) (c : UInt8) (r : List UInt8) : F s (c :: r) = F (stepB s c) r := rfl
theorem F_append (s : BitVec 64) (a b : List UInt8) : F s (a ++ b) = F (F s a) b := List.foldl_append ..

/-- The table's row. -/
theorem step_table (s : BitVec 64) (c : UInt8) : stepB s c = (s >>> 8) ^^^ Tn 8 (BitVec.ofNat 64 ((s.toNat % 256) ^^^ c.toNat)) := by
  unfold stepB
  have hsplit : s ^^^ wide c = ((s >>> 8) <<< 8) ^^^ BitVec.ofNat 64 ((s.toNat % 256) ^^^ c.toNat) := by
    rw [BitVec.ofNat_xor, ← BitVec.xor_assoc]
    unfold wide
    congr 1
    apply BitVec.eq_of_getLsbD_eq
    intro i hi
    rw [BitVec.getLsbD_xor, BitVec.getLsbD_shiftLeft, BitVec.getLsbD_ushiftRight, BitVec.getLsbD_ofNat]
    have e : (256 : Nat) = 2 ^ 8 := rfl
    rw [e, Nat.testBit_mod_two_pow, BitVec.testBit_toNat]
    by_cases h8 : i < 8
    · simp [h8, hi]
    · have : 8 + (i - 8) = i := by omega
      simp [h8, hi, this]
  rw [hsplit, Tn_xor]
  congr 1
  rw [Tn_low 8 _ (fun i hi => by rw [BitVec.getLsbD_shiftLeft]; simp [hi])]
  apply BitVec.eq_of_getLsbD_eq
  intro i hi
  rw [BitVec.getLsbD_ushiftRight, BitVec.getLsbD_shiftLeft, BitVec.getLsbD_ushiftRight]
  by_cases h : 8 + i < 64
  · simp [h]
  · rw [BitVec.getLsbD_ushiftRight, BitVec.getLsbD_of_ge s (8 + i) (by omega)]
    simp [h]

theorem F_xor (s t : BitVec 64) (bs : List UInt8) : F (s ^^^ t) bs = Tn (8 * bs.length) s ^^^ F t bs := by
  induction bs generalizing s t with
  | nil => rfl
  | cons c r ih =>
    rw [F_cons, F_cons]
    have : stepB (s ^^^ t) c = Tn 8 s ^^^ stepB t c := by
      unfold stepB
      rw [BitVec.xor_assoc, Tn_xor]
    rw [this, ih, ← Tn_add]
    congr 2

theorem step_xor (s t : BitVec 64) (c d : UInt8) : stepB (s ^^^ t) (c ^^^ d) = stepB s c ^^^ stepB t d := by
  unfold stepB
  rw [wide_xor, xor4, Tn_xor]

theorem F_zip (s t : BitVec 64) : ∀ (a b : List UInt8), a.length = b.length → F (s ^^^ t) (List.zipWith (· ^^^ ·) a b) = F s a ^^^ F t b := by
  intro a
  induction a generalizing s t with
  | nil => intro b hb; cases b with | nil => rfl | cons x r => simp at hb
  | cons x r ih =>
    intro b hb
    cases b with
    | nil => simp at hb
    | cons y q =>
      simp at hb
      simp only [List.zipWith_cons_cons, F_cons, step_xor]
      exact ih _ _ q hb

/-- One bit of a text turned. -/
theorem F_flip (s : BitVec 64) : ∀ (bs : List UInt8) (k : Nat) (c d : UInt8), bs[k]? = some c → F s (bs.set k (c ^^^ d)) = F s bs ^^^ Tn (8 * (bs.length - k)) (wide d) := by
  intro bs
  induction bs generalizing s with
  | nil => intro k c d h; simp at h
  | cons x r ih =>
    intro k c d h
    cases k with
    | zero =>
      simp at h
      subst h
      simp only [List.set_cons_zero, F_cons, List.length_cons, Nat.sub_zero]
      have : stepB s (x ^^^ d) = Tn 8 (wide d) ^^^ stepB s x := by
        unfold stepB
        rw [wide_xor, ← BitVec.xor_assoc, Tn_xor, BitVec.xor_comm]
      rw [this, F_xor, ← Tn_add, BitVec.xor_comm]
      rfl
    | succ k =>
      simp at h
      simp only [List.set_cons_succ, F_cons, List.length_cons]
      rw [ih _ k c d h]
      congr 2
      omega

/-- The sum. -/
def sumMore (s : BitVec 64) (bs : List UInt8) : BitVec 64 := ~~~ F (~~~ s) bs
def joined (a b : BitVec 64) (n : Nat) : BitVec 64 := Tn (8 * n) a ^^^ b

theorem not_xor (a b : BitVec 64) : ~~~ (a ^^^ b) = a ^^^ ~~~ b := by
  ext i hi; simp
theorem not_is (a : BitVec 64) : ~~~ a = a ^^^ ~~~ (0#64) := by
  rw [← not_xor]; simp

theorem more_nil (s : BitVec 64) : sumMore s [] = s := by simp [sumMore]
theorem more_append (s : BitVec 64) (a b : List UInt8) : sumMore s (a ++ b) = sumMore (sumMore s a) b := by
  simp [sumMore, F_append]
theorem more_joined (s : BitVec 64) (b : List UInt8) : sumMore s b = joined s (sumMore 0#64 b) b.length := by
  unfold sumMore joined
  rw [not_is s, F_xor, not_xor]
theorem joined_zero (b : BitVec 64) (n : Nat) : joined 0#64 b n = b := by
  unfold joined; rw [Tn_zero]; simp
theorem joined_none (a : BitVec 64) : joined a 0#64 0 = a := by simp [joined, Tn]
theorem joined_joined (a b c : BitVec 64) (n m : Nat) : joined (joined a b n) c m = joined a (joined b c m) (n + m) := by
  unfold joined
  rw [Tn_xor, ← Tn_add, BitVec.xor_assoc, Nat.mul_add, Nat.add_comm (8 * m)]
theorem more_three (a b c : List UInt8) (h1 : a.length = b.length) (h2 : b.length = c.length) :
    sumMore 0#64 (List.zipWith (· ^^^ ·) (List.zipWith (· ^^^ ·) a b) c) = sumMore 0#64 a ^^^ sumMore 0#64 b ^^^ sumMore 0#64 c := by
  unfold sumMore
  have e : ~~~ (0#64) = (~~~ (0#64) ^^^ ~~~ (0#64)) ^^^ ~~~ (0#64) := by decide
  have h := F_zip (~~~ (0#64) ^^^ ~~~ (0#64)) (~~~ (0#64)) (List.zipWith (· ^^^ ·) a b) c (by simp [h1, h2])
  rw [F_zip _ _ _ _ h1, ← e] at h
  rw [h]
  ext i hi
  simp

/-- The product of two words. -/
def mulTo (f m : BitVec 64) : Nat → BitVec 64
  | 0 => 0#64
  | i + 1 => mulTo f m i ^^^ (if f.getLsbD (63 - i) then Tn i m else 0#64)
def mul (f m : BitVec 64) : BitVec 64 := mulTo f m 64

theorem mulTo_xor (f g m : BitVec 64) (i : Nat) : mulTo (f ^^^ g) m i = mulTo f m i ^^^ mulTo g m i := by
  induction i with
  | zero => simp [mulTo]
  | succ i ih =>
    simp only [mulTo, ih, BitVec.getLsbD_xor]
    rw [xor4]
    congr 1
    cases f.getLsbD (63 - i) <;> cases g.getLsbD (63 - i) <;> simp
theorem mulTo_xor' (f m n : BitVec 64) (i : Nat) : mulTo f (m ^^^ n) i = mulTo f m i ^^^ mulTo f n i := by
  induction i with
  | zero => simp [mulTo]
  | succ i ih =>
    simp only [mulTo, ih, Tn_xor]
    rw [xor4]
    congr 1
    cases f.getLsbD (63 - i) <;> simp
theorem mulTo_T (f m : BitVec 64) (i : Nat) : mulTo f (T m) i = T (mulTo f m i) := by
  induction i with
  | zero => simp [mulTo, T_zero]
  | succ i ih =>
    simp only [mulTo, ih, T_xor, Tn_T]
    congr 1
    cases f.getLsbD (63 - i) <;> simp [T_zero]
theorem mulTo_Tn (f m : BitVec 64) (i n : Nat) : mulTo f (Tn n m) i = Tn n (mulTo f m i) := by
  induction n with
  | zero => rfl
  | succ n ih => rw [Tn, mulTo_T, ih]; rfl
theorem mulTo_zero' (f : BitVec 64) (i : Nat) : mulTo f 0#64 i = 0#64 := by
  induction i with
  | zero => rfl
  | succ i ih => simp [mulTo, ih, Tn_zero]
theorem mulTo_zero (m : BitVec 64) (i : Nat) : mulTo 0#64 m i = 0#64 := by
  induction i with
  | zero => rfl
  | succ i ih => simp [mulTo, ih]

theorem E_one (i : Nat) (h : i < 64) : Tn i E = one (63 - i) := by
  have : E = one (i + (63 - i)) := by
    have e : i + (63 - i) = 63 := by omega
    rw [e]; decide
  rw [this, Tn_one _ _ (by omega)]

/-- The bits above a place. -/
theorem mulTo_E (f : BitVec 64) (i : Nat) (h : i ≤ 64) (j : Nat) (hj : j < 64) : (mulTo f E i).getLsbD j = (decide (64 - i ≤ j) && f.getLsbD j) := by
  induction i with
  | zero => simp [mulTo]; omega
  | succ i ih =>
    simp only [mulTo, BitVec.getLsbD_xor, ih (by omega), E_one i (by omega)]
    by_cases e : j = 63 - i
    · subst e
      have h1 : ¬ (64 - i ≤ 63 - i) := by omega
      have h2 : 64 - (i + 1) ≤ 63 - i := by omega
      simp only [h1, h2, decide_false, decide_true, Bool.false_and, Bool.true_and, Bool.false_xor]
      cases f.getLsbD (63 - i)
      · simp
      · simp [one_bit _ _ hj]
    · have h1 : (if f.getLsbD (63 - i) = true then one (63 - i) else 0#64).getLsbD j = false := by
        cases f.getLsbD (63 - i)
        · simp
        · simp [one_bit _ _ hj]; omega
      rw [h1]
      have : decide (64 - (i + 1) ≤ j) = decide (64 - i ≤ j) := by
        by_cases h : 64 - i ≤ j
        · rw [decide_eq_true h, decide_eq_true (by omega)]
        · rw [decide_eq_false h, decide_eq_false (by omega)]
      rw [this, Bool.xor_false]
theorem mul_E (f : BitVec 64) : mul f E = f := by
  apply BitVec.eq_of_getLsbD_eq
  intro i hi
  unfold mul
  rw [mulTo_E f 64 (by omega) i hi]
  simp
theorem Tn64 (m : BitVec 64) : Tn 64 m = mul P m := by
  have hE : Tn 64 E = P := by decide +kernel
  have key : ∀ i, i ≤ 64 → Tn 64 (mulTo m E i) = mul P (mulTo m E i) := by
    intro i
    induction i with
    | zero => intro _; simp [mulTo, Tn_zero, mul]
    | succ i ih =>
      intro hi
      simp only [mulTo]
      unfold mul at *
      rw [Tn_xor, mulTo_xor', ih (by omega)]
      congr 1
      cases m.getLsbD (63 - i)
      · simp [Tn_zero, mulTo_zero']
      · simp only [if_true]
        rw [mulTo_Tn, ← Tn_add, Nat.add_comm, Tn_add, hE, show mulTo P E 64 = P from mul_E P]
  have := key 64 (by omega)
  have hm : mulTo m E 64 = m := mul_E m
  rw [hm] at this
  exact this

/-- A word once more times x. -/
theorem mul_shift (f m : BitVec 64) (i : Nat) (h : i ≤ 63) : mulTo (f >>> 1) m (i + 1) = T (mulTo f m i) := by
  induction i with
  | zero =>
    have : (f >>> 1).getLsbD 63 = false := by rw [BitVec.getLsbD_ushiftRight]; exact BitVec.getLsbD_of_ge _ _ (by decide)
    simp only [mulTo, Nat.sub_zero, this]
    simp [T_zero]
  | succ i ih =>
    rw [mulTo, ih (by omega)]
    have e : (f >>> 1).getLsbD (63 - (i + 1)) = f.getLsbD (63 - i) := by
      rw [BitVec.getLsbD_ushiftRight]
      congr 1
      omega
    rw [e]
    show _ = T (mulTo f m i ^^^ _)
    rw [T_xor]
    congr 1
    cases f.getLsbD (63 - i)
    · simp [T_zero]
    · rfl
theorem mul_T (f m : BitVec 64) : mul (T f) m = T (mul f m) := by
  have h1 : mulTo (f >>> 1) m 64 = T (mulTo f m 63) := mul_shift f m 63 (by omega)
  have h2 : mul f m = mulTo f m 63 ^^^ (if f.getLsbD 0 then Tn 63 m else 0#64) := rfl
  rw [h2, T_xor, ← h1]
  have h3 : mul (T f) m = mulTo (f >>> 1) m 64 ^^^ mulTo (if f.getLsbD 0 then P else 0#64) m 64 := mulTo_xor _ _ m 64
  rw [h3]
  cases f.getLsbD 0
  · simp only [Bool.false_eq_true, if_false, mulTo_zero, T_zero]
  · simp only [if_true]
    rw [show mulTo P m 64 = Tn 64 m from (Tn64 m).symm]
    rfl
theorem mul_Tn (n : Nat) (m : BitVec 64) : mul (Tn n E) m = Tn n m := by
  induction n with
  | zero =>
    have key : ∀ i, i ≤ 63 → mulTo E m (i + 1) = m := by
      intro i
      induction i with
      | zero => intro _; have : E.getLsbD 63 = true := by decide
                simp only [mulTo, Nat.sub_zero, this, if_true, Tn]; simp
      | succ i ih =>
        intro hi
        rw [mulTo, ih (by omega)]
        have : E.getLsbD (63 - (i + 1)) = false := by
          have e : E = one 63 := by decide
          rw [e, one_bit _ _ (by omega)]; simp; omega
        rw [this]
        simp
    exact key 63 (by omega)
  | succ n ih => rw [Tn, mul_T, ih]; rfl

/-- Where no bit is left, the product is whole. -/
theorem mulTo_end (f m : BitVec 64) (i : Nat) (h : f <<< i = 0#64) : ∀ k, i ≤ k → k ≤ 64 → mulTo f m k = mulTo f m i := by
  intro k hk
  induction k with
  | zero => intro _; have : i = 0 := by omega
            rw [this]
  | succ k ih =>
    intro h64
    by_cases e : i = k + 1
    · rw [e]
    · rw [mulTo, ih (by omega) (by omega)]
      have hb : f.getLsbD (63 - k) = false := by
        have := congrArg (fun v => v.getLsbD (63 - k + i)) h
        simp only [BitVec.getLsbD_shiftLeft] at this
        have h1 : 63 - k + i < 64 := by omega
        have h2 : 63 - k + i - i = 63 - k := by omega
        simpa [h1, h2] using this
      rw [hb]
      simp

end Go.Proofs.Ytafkimhnllnopaa
