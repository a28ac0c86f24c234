/- The document's side: words turned round; division one coefficient after the other is the same sum. -/
import Derived.Test.YtafkimhnllnopaaWords
namespace Go.Proofs.Ytafkimhnllnopaa

def revTo (x : BitVec 64) : Nat → BitVec 64
  | 0 => 0#64
  | i + 1 => (revTo x i <<< 1) ^^^ bitw (x.getLsbD i)
def rev (x : BitVec 64) : BitVec 64 := revTo x 64
theorem bitw_bit (b : Bool) (j : Nat) : (bitw b).getLsbD j = (decide (j = 0) && b) := by
  cases b
  · simp [bitw]
  · cases j <;> simp [bitw]
theorem revTo_bit (x : BitVec 64) (i : Nat) (hi : i ≤ 64) (j : Nat) (hj : j < 64) : (revTo x i).getLsbD j = (decide (j < i) && x.getLsbD (i - 1 - j)) := by
  induction i generalizing j with
  | zero => simp [revTo]
  | succ i ih =>
    rw [revTo, BitVec.getLsbD_xor, BitVec.getLsbD_shiftLeft, bitw_bit]
    cases j with
    | zero => simp
    | succ j =>
      rw [show j + 1 - 1 = j from rfl, ih (by omega) j (by omega)]
      have h1 : ¬ (j + 1 < 1) := by omega
      have h2 : ¬ (j + 1 = 0) := by omega
      simp only [hj, h1, h2, decide_true, decide_false, Bool.not_false, Bool.true_and, Bool.false_and, Bool.xor_false]
      by_cases h : j < i
      · rw [decide_eq_true h, decide_eq_true (by omega)]
        congr 2
        omega
      · rw [decide_eq_false h, decide_eq_false (by omega)]
        simp
theorem rev_bit (x : BitVec 64) (j : Nat) (hj : j < 64) : (rev x).getLsbD j = x.getLsbD (63 - j) := by
  unfold rev
  rw [revTo_bit x 64 (by omega) j hj]
  simp [hj]
theorem rev_rev (x : BitVec 64) : rev (rev x) = x := by
  apply BitVec.eq_of_getLsbD_eq
  intro j hj
  rw [rev_bit _ _ hj, rev_bit _ _ (by omega)]
  congr 1
  omega
theorem rev_xor (x y : BitVec 64) : rev (x ^^^ y) = rev x ^^^ rev y := by
  apply BitVec.eq_of_getLsbD_eq
  intro j hj
  rw [rev_bit _ _ hj, BitVec.getLsbD_xor, BitVec.getLsbD_xor, rev_bit _ _ hj, rev_bit _ _ hj]
theorem rev_zero : rev 0#64 = 0#64 := by
  apply BitVec.eq_of_getLsbD_eq
  intro j hj
  rw [rev_bit _ _ hj]
  simp
theorem rev_R : rev R = P := by decide +kernel
theorem rev_step (x : BitVec 64) (b : Bool) : rev (stepR x b) = T (rev x) ^^^ (if b then E else 0#64) := by
  unfold stepR T
  rw [rev_xor, rev_xor]
  have h1 : rev (x <<< 1) = rev x >>> 1 := by
    apply BitVec.eq_of_getLsbD_eq
    intro j hj
    rw [rev_bit _ _ hj, BitVec.getLsbD_shiftLeft, BitVec.getLsbD_ushiftRight]
    by_cases h : j = 63
    · subst h
      rw [BitVec.getLsbD_of_ge _ (1 + 63) (by omega)]
      simp
    · rw [rev_bit _ _ (by omega)]
      have h2 : 63 - j < 64 := by omega
      have h3 : ¬ 63 - j < 1 := by omega
      simp only [h2, h3, decide_true, decide_false, Bool.not_false, Bool.true_and]
      congr 1
      omega
  have h2 : rev (bitw b) = if b then E else 0#64 := by
    cases b
    · exact rev_zero
    · decide +kernel
  have h3 : x.msb = (rev x).getLsbD 0 := by
    rw [rev_bit _ _ (by omega), BitVec.msb_eq_getLsbD_last]
  have h4 : rev (if x.msb then R else 0#64) = if (rev x).getLsbD 0 then P else 0#64 := by
    rw [h3]
    cases (rev x).getLsbD 0
    · exact rev_zero
    · exact rev_R
  rw [h1, h2, h4, BitVec.xor_assoc, BitVec.xor_comm (if b = true then E else 0#64), BitVec.xor_assoc]

/-- The low bits of a word. -/
def lowTo (f : BitVec 64) : Nat → BitVec 64
  | 0 => 0#64
  | i + 1 => lowTo f i ^^^ (if f.getLsbD i then one i else 0#64)
theorem lowTo_bit (f : BitVec 64) (i j : Nat) (hj : j < 64) : (lowTo f i).getLsbD j = (decide (j < i) && f.getLsbD j) := by
  induction i with
  | zero => simp [lowTo]
  | succ i ih =>
    simp only [lowTo, BitVec.getLsbD_xor, ih]
    by_cases e : j = i
    · subst e
      have h1 : ¬ j < j := by omega
      have h2 : j < j + 1 := by omega
      simp only [h1, h2, decide_false, decide_true, Bool.false_and, Bool.true_and, Bool.false_xor]
      cases f.getLsbD j
      · simp
      · simp [one_bit _ _ hj]
    · have h1 : (if f.getLsbD i = true then one i else 0#64).getLsbD j = false := by
        cases f.getLsbD i
        · simp
        · simp [one_bit _ _ hj]; omega
      rw [h1, Bool.xor_false]
      by_cases h : j < i
      · rw [decide_eq_true h, decide_eq_true (by omega)]
      · rw [decide_eq_false h, decide_eq_false (by omega)]
theorem lowTo_all (f : BitVec 64) (k : Nat) (h : ∀ i, k ≤ i → f.getLsbD i = false) : lowTo f k = f := by
  apply BitVec.eq_of_getLsbD_eq
  intro j hj
  rw [lowTo_bit _ _ _ hj]
  by_cases hk : j < k
  · simp [hk]
  · rw [h j (by omega)]; simp

/-- A product, the highest power first. -/
def horner (f m : BitVec 64) : Nat → BitVec 64
  | 0 => 0#64
  | k + 1 => T (horner f m k) ^^^ (if f.getLsbD k then m else 0#64)
theorem mul_one (k : Nat) (hk : k < 64) (m : BitVec 64) : mul (one k) m = Tn (63 - k) m := by
  rw [← mul_Tn]
  congr 1
  rw [E_one (63 - k) (by omega)]
  congr 1
  omega
theorem horner_is (f m : BitVec 64) (k : Nat) (hk : k ≤ 64) : Tn (64 - k) (horner f m k) = mul (lowTo f k) m := by
  induction k with
  | zero => simp only [horner, lowTo, Tn_zero]; exact (mulTo_zero m 64).symm
  | succ k ih =>
    have e : mul (lowTo f (k + 1)) m = mul (lowTo f k) m ^^^ mul (if f.getLsbD k then one k else 0#64) m := mulTo_xor _ _ m 64
    rw [e, ← ih (by omega), horner, Tn_xor, Tn_T]
    have e2 : 64 - k = (64 - (k + 1)) + 1 := by omega
    rw [e2]
    show T _ ^^^ _ = T _ ^^^ _
    congr 1
    cases f.getLsbD k
    · simp only [Bool.false_eq_true, if_false, Tn_zero]; exact (mulTo_zero m 64).symm
    · simp only [if_true]
      rw [mul_one k (by omega)]
      congr 1
      omega
theorem horner_all (f m : BitVec 64) : horner f m 64 = mul f m := by
  have := horner_is f m 64 (Nat.le_refl _)
  rw [lowTo_all f 64 (fun i hi => BitVec.getLsbD_of_ge _ _ hi)] at this
  exact this

/-- The document's division. -/
def bitOf (bs : List UInt8) (i : Nat) : Bool := (bs[i / 8]?.getD 0).toNat.testBit (i % 8)
def coef (s : BitVec 64) (bs : List UInt8) (i : Nat) : Bool := (bitOf bs i) ^^ (decide (i < 64) && s.getLsbD i)
def rest (s : BitVec 64) (bs : List UInt8) : Nat → BitVec 64
  | 0 => 0#64
  | i + 1 => stepR (rest s bs i) (coef s bs i)
def feed (c : Nat → Bool) : Nat → BitVec 64
  | 0 => 0#64
  | i + 1 => T (feed c i) ^^^ (if c i then E else 0#64)
theorem rest_feed (s : BitVec 64) (bs : List UInt8) (i : Nat) : rev (rest s bs i) = feed (coef s bs) i := by
  induction i with
  | zero => exact rev_zero
  | succ i ih => rw [rest, rev_step, ih]; rfl
theorem feed_xor (c d : Nat → Bool) (i : Nat) : feed (fun i => c i ^^ d i) i = feed c i ^^^ feed d i := by
  induction i with
  | zero => simp [feed]
  | succ i ih =>
    simp only [feed, ih, T_xor]
    rw [xor4]
    congr 1
    have key : ∀ u v : Bool, (if (u ^^ v) = true then E else 0#64) = (if u = true then E else 0#64) ^^^ (if v = true then E else 0#64) := by
      intro u v
      cases u <;> cases v <;> simp
    exact key (c i) (d i)
theorem feed_none (c : Nat → Bool) (n k : Nat) (h : ∀ i, n ≤ i → c i = false) : feed c (n + k) = Tn k (feed c n) := by
  induction k with
  | zero => rfl
  | succ k ih =>
    rw [Nat.add_succ, feed, h _ (by omega), ih]
    simp [Tn]
theorem feed_horner (s : BitVec 64) (i : Nat) (hi : i ≤ 64) : feed (fun i => decide (i < 64) && s.getLsbD i) i = horner s E i := by
  induction i with
  | zero => rfl
  | succ i ih =>
    rw [feed, ih (by omega), horner]
    have : decide (i < 64) = true := decide_eq_true (by omega)
    simp only [this, Bool.true_and]
theorem bit_wide (bs : List UInt8) (k j : Nat) (hj : j < 8) (b : UInt8) (hb : bs[k]? = some b) : bitOf bs (8 * k + j) = (wide b).getLsbD j := by
  unfold bitOf wide
  have h1 : (8 * k + j) / 8 = k := by omega
  have h2 : (8 * k + j) % 8 = j := by omega
  rw [h1, h2, hb, BitVec.getLsbD_ofNat]
  have : decide (j < 64) = true := decide_eq_true (by omega)
  simp [this]
theorem feed_bytes (bs : List UInt8) (k : Nat) (hk : k ≤ bs.length) : Tn 64 (feed (bitOf bs) (8 * k)) = F 0#64 (bs.take k) := by
  induction k with
  | zero => simp [feed, Tn_zero]
  | succ k ih =>
    obtain ⟨b, hb⟩ : ∃ b, bs[k]? = some b := ⟨bs[k]'(by omega), List.getElem?_eq_getElem (by omega)⟩
    have ih := ih (by omega)
    have key : ∀ j, j ≤ 8 → Tn 64 (feed (bitOf bs) (8 * k + j)) = Tn j (F 0#64 (bs.take k) ^^^ lowTo (wide b) j) := by
      intro j
      induction j with
      | zero => intro _; rw [Nat.add_zero, ih]; simp [lowTo, Tn]
      | succ j jh =>
        intro hj
        rw [Nat.add_succ, feed, Tn_xor, Tn_T, jh (by omega), bit_wide bs k j (by omega) b hb, lowTo, ← BitVec.xor_assoc, Tn_xor (j + 1)]
        show T _ ^^^ _ = T _ ^^^ _
        congr 1
        cases (wide b).getLsbD j
        · simp [Tn_zero]
        · simp only [if_true]
          have e1 := E_one (63 - j) (by omega)
          rw [show 63 - (63 - j) = j by omega] at e1
          rw [← e1, ← Tn_add]
          congr 1
          omega
    have h8 := key 8 (by omega)
    rw [lowTo_all (wide b) 8 (fun i hi => wide_bit b i hi)] at h8
    rw [show 8 * (k + 1) = 8 * k + 8 by omega, h8, List.take_add_one, hb]
    simp [F_append, stepB]
theorem bit_none (bs : List UInt8) (i : Nat) (h : 8 * bs.length ≤ i) : bitOf bs i = false := by
  unfold bitOf
  rw [List.getElem?_eq_none (by omega)]
  simp
theorem rest_is (s : BitVec 64) (bs : List UInt8) : rev (rest s bs (8 * bs.length + 64)) = F s bs := by
  rw [rest_feed]
  have e : coef s bs = fun i => bitOf bs i ^^ (decide (i < 64) && s.getLsbD i) := rfl
  rw [e, feed_xor, feed_none (bitOf bs) (8 * bs.length) 64 (fun i hi => bit_none bs i hi), feed_bytes bs bs.length (Nat.le_refl _), Nat.add_comm, feed_none _ 64 (8 * bs.length) (fun i hi => by simp; omega), feed_horner s 64 (Nat.le_refl _), horner_all, mul_E, List.take_length]
  have := F_xor s 0#64 bs
  rw [BitVec.xor_zero] at this
  rw [this, BitVec.xor_comm]
end Go.Proofs.Ytafkimhnllnopaa
