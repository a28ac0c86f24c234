/- Messages that may be; their bytes, and read again. -/
import Derived.Test.YtkjjgbaoicjbaabPieces
import Derived.Test.YtkjjgbaoicjbaabBranch
namespace Go.Proofs.Ytkjjgbaoicjbaab

/-- A message may be, but for its stamp. -/
def Ms.may (z : Nat) (m : Ms) : Bool := decide (1 ≤ m.lo.length ∧ m.lo.length ≤ z / 16) &&
  (if m.kd = 1 then decide (m.hi = [] ∧ m.va.length ≤ z / 4) else if m.kd = 2 then decide (m.hi = [] ∧ m.va = []) else if m.kd = 3 then decide (m.hi.length ≤ z / 16 ∧ m.lo < m.hi ∧ m.va = []) else false)
def checkL (z : Nat) : Nat → List Ms → Nat
  | _, [] => 0
  | n, m :: r => if m.may z = false then 71 else if m.st ≤ n ∨ 4611686018427387904 < m.st then 72 else checkL z m.st r
def checkM (z : Int) (l : List Ms) : Nat := if ¬ Sized z then 1 else checkL z.toNat 0 l
theorem checkL_zero {z n : Nat} {l : List Ms} : checkL z n l = 0 ↔ (∀ m ∈ l, m.may z = true ∧ n < m.st ∧ m.st ≤ 4611686018427387904) ∧ l.Pairwise fun a b => a.st < b.st := by
  induction l generalizing n with
  | nil => simp [checkL]
  | cons m r ih =>
    unfold checkL
    constructor
    · intro h
      split at h
      · cases h
      · rename_i h1
        split at h
        · cases h
        · rename_i h2
          rw [ih] at h
          rw [List.pairwise_cons]
          refine ⟨fun x hx => ?_, fun x hx => (h.1 x hx).2.1, h.2⟩
          rcases List.mem_cons.1 hx with rfl | hx
          · exact ⟨by simpa using h1, by omega, by omega⟩
          · have := h.1 x hx; exact ⟨this.1, by omega, this.2.2⟩
    · rintro ⟨h1, h2⟩
      have h3 := h1 m (List.mem_cons_self ..)
      rw [List.pairwise_cons] at h2
      rw [if_neg (by simp [h3.1]), if_neg (by omega), ih]
      exact ⟨fun x hx => ⟨(h1 x (List.mem_cons_of_mem _ hx)).1, h2.1 x hx, (h1 x (List.mem_cons_of_mem _ hx)).2.2⟩, h2.2⟩
theorem checkM_zero {z : Int} {l : List Ms} : checkM z l = 0 ↔ Sized z ∧ (∀ m ∈ l, m.may z.toNat = true ∧ 0 < m.st ∧ m.st ≤ 4611686018427387904) ∧ l.Pairwise fun a b => a.st < b.st := by
  unfold checkM
  by_cases h : Sized z
  · rw [if_neg (by simpa using h), checkL_zero]; simp [h]
  · rw [if_pos h]; simp [h]
/-- Of messages that may be some. -/
theorem checkM_sub {z : Int} {l r : List Ms} (h : checkM z l = 0) (hs : r.Sublist l) : checkM z r = 0 := by
  rw [checkM_zero] at h ⊢
  exact ⟨h.1, fun m hm => h.2.1 m (hs.subset hm), h.2.2.sublist hs⟩

def eight (n : Nat) : Key := four (n / 4294967296) ++ four (n % 4294967296)
theorem eight_length (n : Nat) : (eight n).length = 8 := rfl
theorem num_append (a b : Key) : num (a ++ b) = num a * 256 ^ b.length + num b := by
  unfold num
  rw [List.foldl_append]
  suffices h : ∀ (b : Key) (n : Nat), b.foldl (fun n c => n * 256 + c.toNat) n = n * 256 ^ b.length + b.foldl (fun n c => n * 256 + c.toNat) 0 from h b _
  intro b
  induction b with
  | nil => intro n; simp
  | cons c r ih =>
    intro n
    rw [List.foldl_cons, List.foldl_cons, ih, ih (0 * 256 + c.toNat), List.length_cons, Nat.pow_succ, Nat.add_mul, Nat.zero_mul, Nat.zero_add, Nat.mul_assoc, Nat.mul_comm 256, Nat.add_assoc]
theorem num_eight {n : Nat} (h : n < 18446744073709551616) : num (eight n) = n := by
  have h1 := num_append (four (n / 4294967296)) (four (n % 4294967296))
  rw [num_four (by omega), num_four (by omega), four_length, show (256 : Nat) ^ 4 = 4294967296 by decide] at h1
  have h2 : num (eight n) = n / 4294967296 * 4294967296 + n % 4294967296 := h1
  omega
theorem eight_num (b : Key) (h : b.length = 8) : eight (num b) = b := by
  match b, h with
  | [a1, a2, a3, a4, a5, a6, a7, a8], _ =>
    have e : ([a1, a2, a3, a4, a5, a6, a7, a8] : Key) = [a1, a2, a3, a4] ++ [a5, a6, a7, a8] := rfl
    rw [e, num_append]
    have h1 := num_bound [a5, a6, a7, a8]
    have h3 : (256 : Nat) ^ [a5, a6, a7, a8].length = 4294967296 := by rw [show [a5, a6, a7, a8].length = 4 from rfl]
    rw [h3] at h1 ⊢
    unfold eight
    rw [show (num [a1, a2, a3, a4] * 4294967296 + num [a5, a6, a7, a8]) / 4294967296 = num [a1, a2, a3, a4] by omega, show (num [a1, a2, a3, a4] * 4294967296 + num [a5, a6, a7, a8]) % 4294967296 = num [a5, a6, a7, a8] by omega, four_num, four_num]
def tailM (m : Ms) : Key := if m.kd = 1 then m.va else if m.kd = 3 then m.hi else []
def lay1 (m : Ms) : Key := eight m.st ++ ([UInt8.ofNat m.kd.toNat] ++ (two m.lo.length ++ (two (tailM m).length ++ (m.lo ++ tailM m))))
def layL (l : List Ms) : Key := l.flatMap lay1
def layM (l : List Ms) : Key := four l.length ++ layL l
def sizeM (m : Ms) : Nat := 13 + m.lo.length + m.hi.length + m.va.length
def sizesM (l : List Ms) : Nat := (l.map sizeM).sum
theorem layL_cons (m : Ms) (l : List Ms) : layL (m :: l) = lay1 m ++ layL l := rfl
theorem sizesM_cons (m : Ms) (l : List Ms) : sizesM (m :: l) = sizeM m + sizesM l := rfl
theorem sizesM_append (a b : List Ms) : sizesM (a ++ b) = sizesM a + sizesM b := by simp [sizesM]
theorem sizesM_take (l : List Ms) (i : Nat) (m : Ms) (h : l[i]? = some m) : sizesM (l.take (i + 1)) = sizesM (l.take i) + sizeM m := by
  rw [List.take_add_one, h, sizesM_append]; rfl
theorem sizesM_sub {a b : List Ms} (h : a.Sublist b) : sizesM a ≤ sizesM b := by
  induction h with
  | slnil => exact Nat.le_refl _
  | cons x h ih => rw [sizesM_cons]; omega
  | cons_cons x h ih => rw [sizesM_cons, sizesM_cons]; omega
theorem lay1_length (m : Ms) : (lay1 m).length = 13 + m.lo.length + (tailM m).length := by
  simp [lay1, eight_length, two_length]; omega
theorem may_size {z : Nat} {m : Ms} (h : m.may z = true) : sizeM m = 13 + m.lo.length + (tailM m).length := by
  unfold Ms.may at h
  unfold sizeM tailM
  rw [Bool.and_eq_true] at h
  obtain ⟨_, h⟩ := h
  split at h
  · rename_i h1
    rw [if_pos h1]
    simp at h; rw [h.1]; simp
  · rename_i h1
    split at h
    · rename_i h2
      rw [if_neg h1, if_neg (by omega)]
      simp at h; rw [h.1, h.2]; simp
    · split at h
      · rename_i h3
        rw [if_neg h1, if_pos h3]
        simp at h; rw [h.2.2]; simp
      · cases h
theorem layM_length {z : Int} {l : List Ms} (h : checkM z l = 0) : (layM l).length = 4 + sizesM l := by
  rw [checkM_zero] at h
  have : ∀ r : List Ms, (∀ m ∈ r, m.may z.toNat = true) → (layL r).length = sizesM r := by
    intro r
    induction r with
    | nil => intro _; rfl
    | cons m r ih =>
      intro h
      rw [layL_cons, sizesM_cons, List.length_append, lay1_length, may_size (h m (List.mem_cons_self ..)), ih fun x hx => h x (List.mem_cons_of_mem _ hx)]
  rw [layM, List.length_append, four_length, this l fun m hm => (h.2.1 m hm).1]

/-- One message is read. -/
def read1 (b : Key) : Option (Ms × Key) :=
  if b.length < 13 then none
  else if (b.drop 13).length < num ((b.drop 9).take 2) + num ((b.drop 11).take 2) then none
  else some (⟨num (b.take 8), (num ((b.drop 8).take 1) : Int), (b.drop 13).take (num ((b.drop 9).take 2)),
      if (num ((b.drop 8).take 1) : Int) = 1 then [] else ((b.drop 13).drop (num ((b.drop 9).take 2))).take (num ((b.drop 11).take 2)),
      if (num ((b.drop 8).take 1) : Int) = 1 then ((b.drop 13).drop (num ((b.drop 9).take 2))).take (num ((b.drop 11).take 2)) else []⟩,
    (b.drop 13).drop (num ((b.drop 9).take 2) + num ((b.drop 11).take 2)))
def readN : Nat → Key → Option (List Ms × Key)
  | 0, b => some ([], b)
  | n + 1, b => match read1 b with
    | none => none
    | some (m, r) => match readN n r with
      | none => none
      | some (l, s) => some (m :: l, s)
def decB (z : Int) (b : Key) : Option (List Ms) :=
  if b.length < 4 then none
  else match readN (num (b.take 4)) (b.drop 4) with
    | some (l, []) => if checkM z l = 0 then some l else none
    | _ => none
theorem num_one (c : UInt8) : num [c] = c.toNat := by simp [num]
theorem may_kd {z : Nat} {m : Ms} (h : m.may z = true) : m.kd = 1 ∨ m.kd = 2 ∨ m.kd = 3 := by
  unfold Ms.may at h
  rw [Bool.and_eq_true] at h
  obtain ⟨_, h⟩ := h
  split at h
  · omega
  · split at h
    · omega
    · split at h
      · omega
      · cases h
theorem may_is {z : Nat} {m : Ms} (h : m.may z = true) : m = ⟨m.st, m.kd, m.lo, if m.kd = 1 then [] else tailM m, if m.kd = 1 then tailM m else []⟩ := by
  obtain ⟨st, kd, lo, hi, va⟩ := m
  unfold Ms.may at h
  unfold tailM
  rw [Bool.and_eq_true] at h
  obtain ⟨_, h⟩ := h
  simp only at h ⊢
  split at h
  · rename_i h1; simp at h; simp [h1, h.1]
  · rename_i h1
    split at h
    · rename_i h2; simp at h; simp [h2, h.1, h.2]
    · split at h
      · rename_i h3; simp at h; simp [h3, h.2.2]
      · cases h
theorem may_short {z : Nat} {m : Ms} (hz : z ≤ 4096) (h : m.may z = true) : m.lo.length ≤ 256 ∧ (tailM m).length ≤ 1024 := by
  unfold Ms.may at h
  unfold tailM
  rw [Bool.and_eq_true] at h
  obtain ⟨h0, h⟩ := h
  simp at h0
  refine ⟨by omega, ?_⟩
  split at h
  · rename_i h1; simp at h; rw [if_pos h1]; omega
  · rename_i h1
    split at h
    · rename_i h2; rw [if_neg h1, if_neg (by omega)]; simp
    · split at h
      · rename_i h3; simp at h; rw [if_neg h1, if_pos h3]; omega
      · cases h
theorem read1_lay {z : Nat} {m : Ms} (r : Key) (hz : z ≤ 4096) (h : m.may z = true) (hs : m.st ≤ 4611686018427387904) : read1 (lay1 m ++ r) = some (m, r) := by
  obtain ⟨h1, h2⟩ := may_short hz h
  have hk := may_kd h
  have e : lay1 m ++ r = eight m.st ++ ([UInt8.ofNat m.kd.toNat] ++ (two m.lo.length ++ (two (tailM m).length ++ (m.lo ++ (tailM m ++ r))))) := by
    simp [lay1]
  have d0 : (lay1 m ++ r).take 8 = eight m.st := by rw [e, List.take_left' (eight_length _)]
  have d8 : (lay1 m ++ r).drop 8 = [UInt8.ofNat m.kd.toNat] ++ (two m.lo.length ++ (two (tailM m).length ++ (m.lo ++ (tailM m ++ r)))) := by rw [e, List.drop_left' (eight_length _)]
  have d9 : (lay1 m ++ r).drop 9 = two m.lo.length ++ (two (tailM m).length ++ (m.lo ++ (tailM m ++ r))) := by
    rw [show 9 = 8 + 1 from rfl, ← List.drop_drop, d8]; rfl
  have d11 : (lay1 m ++ r).drop 11 = two (tailM m).length ++ (m.lo ++ (tailM m ++ r)) := by
    rw [show 11 = 9 + 2 from rfl, ← List.drop_drop, d9, List.drop_left' (two_length _)]
  have d13 : (lay1 m ++ r).drop 13 = m.lo ++ (tailM m ++ r) := by
    rw [show 13 = 11 + 2 from rfl, ← List.drop_drop, d11, List.drop_left' (two_length _)]
  have t1 : (num (((lay1 m ++ r).drop 8).take 1) : Int) = m.kd := by
    rw [d8, show List.take 1 ([UInt8.ofNat m.kd.toNat] ++ (two m.lo.length ++ (two (tailM m).length ++ (m.lo ++ (tailM m ++ r))))) = [UInt8.ofNat m.kd.toNat] from rfl, num_one, UInt8.toNat_ofNat']; omega
  have t2 : num (((lay1 m ++ r).drop 9).take 2) = m.lo.length := by rw [d9, List.take_left' (two_length _), num_two (by omega)]
  have t3 : num (((lay1 m ++ r).drop 11).take 2) = (tailM m).length := by rw [d11, List.take_left' (two_length _), num_two (by omega)]
  unfold read1
  rw [t1, t2, t3, d0, d13, num_eight (by omega), if_neg (by rw [List.length_append, lay1_length]; omega), if_neg (by simp), List.take_left' rfl, List.drop_left' rfl, List.take_left' rfl, ← List.drop_drop, List.drop_left' rfl, List.drop_left' rfl, ← may_is h]
theorem readN_lay {z : Nat} (hz : z ≤ 4096) (l : List Ms) (h : ∀ m ∈ l, m.may z = true ∧ m.st ≤ 4611686018427387904) (r : Key) : readN l.length (layL l ++ r) = some (l, r) := by
  induction l with
  | nil => rfl
  | cons m l ih =>
    have h1 := h m (List.mem_cons_self ..)
    rw [List.length_cons, layL_cons, List.append_assoc]
    unfold readN
    rw [read1_lay _ hz h1.1 h1.2]
    simp only
    rw [ih fun x hx => h x (List.mem_cons_of_mem _ hx)]
/-- What is written is read. -/
theorem dec_lay {z : Int} {l : List Ms} (h : checkM z l = 0) (hl : l.length < 4294967296) : decB z (layM l) = some l := by
  have h' := checkM_zero.1 h
  have hz := sized_le h'.1
  unfold decB
  rw [if_neg (by rw [layM, List.length_append, four_length]; omega), layM, List.take_left' (four_length _), List.drop_left' (four_length _), num_four hl]
  have := readN_lay (z := z.toNat) (by omega) l (fun m hm => ⟨(h'.2.1 m hm).1, (h'.2.1 m hm).2.2⟩) []
  rw [List.append_nil] at this
  rw [this]
  simp only
  rw [if_pos h]
theorem lay_read1 {b r : Key} {m : Ms} (h : read1 b = some (m, r)) {z : Nat} (hm : m.may z = true) : b = lay1 m ++ r := by
  unfold read1 at h
  split at h
  · cases h
  · rename_i h13
    split at h
    · cases h
    · rename_i hl
      simp only [Option.some.injEq, Prod.mk.injEq] at h
      obtain ⟨rfl, rfl⟩ := h
      have hk := may_kd hm
      have h1 : 13 ≤ b.length := by omega
      have e0 : b = b.take 8 ++ ((b.drop 8).take 1 ++ ((b.drop 9).take 2 ++ ((b.drop 11).take 2 ++ b.drop 13))) := by
        have a1 : (b.drop 11).take 2 ++ b.drop 13 = b.drop 11 := by rw [show 13 = 11 + 2 from rfl, ← List.drop_drop, List.take_append_drop]
        have a2 : (b.drop 9).take 2 ++ b.drop 11 = b.drop 9 := by rw [show 11 = 9 + 2 from rfl, ← List.drop_drop, List.take_append_drop]
        have a3 : (b.drop 8).take 1 ++ b.drop 9 = b.drop 8 := by rw [show 9 = 8 + 1 from rfl, ← List.drop_drop, List.take_append_drop]
        rw [a1, a2, a3, List.take_append_drop]
      generalize hlo : num ((b.drop 9).take 2) = lo at *
      generalize htl : num ((b.drop 11).take 2) = tl at *
      generalize hkd : (num ((b.drop 8).take 1) : Int) = kd at *
      have hlen : ((b.drop 13).take lo).length = lo := by rw [List.length_take]; omega
      have hlen2 : (((b.drop 13).drop lo).take tl).length = tl := by rw [List.length_take, List.length_drop]; omega
      have ht : tailM ⟨num (b.take 8), kd, (b.drop 13).take lo, if kd = 1 then [] else ((b.drop 13).drop lo).take tl, if kd = 1 then ((b.drop 13).drop lo).take tl else []⟩ = ((b.drop 13).drop lo).take tl := by
        unfold tailM
        simp only
        rcases hk with hk | hk | hk
        · simp only at hk; simp [hk]
        · simp only at hk
          have := may_is hm
          simp only [Ms.mk.injEq, tailM, hk] at this
          have h3 := this.2.2.2.1
          simp only [show ¬ (2 : Int) = 1 by decide, show ¬ (2 : Int) = 3 by decide, if_false] at h3
          simp only [hk, show ¬ (2 : Int) = 1 by decide, show ¬ (2 : Int) = 3 by decide, if_false]
          exact h3.symm
        · simp only at hk; simp [hk]
      unfold lay1
      rw [ht]
      simp only
      rw [hlen, hlen2, eight_num _ (by rw [List.length_take]; omega)]
      have b2 : two lo = (b.drop 9).take 2 := by
        obtain ⟨x, y, hxy⟩ : ∃ x y, (b.drop 9).take 2 = [x, y] := by
          match hh : (b.drop 9).take 2, (show ((b.drop 9).take 2).length = 2 by rw [List.length_take, List.length_drop]; omega) with
          | [x, y], _ => exact ⟨x, y, rfl⟩
        rw [← hlo, hxy, two_num]
      have b3 : two tl = (b.drop 11).take 2 := by
        obtain ⟨x, y, hxy⟩ : ∃ x y, (b.drop 11).take 2 = [x, y] := by
          match hh : (b.drop 11).take 2, (show ((b.drop 11).take 2).length = 2 by rw [List.length_take, List.length_drop]; omega) with
          | [x, y], _ => exact ⟨x, y, rfl⟩
        rw [← htl, hxy, two_num]
      have b1 : [UInt8.ofNat kd.toNat] = (b.drop 8).take 1 := by
        obtain ⟨x, hx⟩ : ∃ x, (b.drop 8).take 1 = [x] := by
          match hh : (b.drop 8).take 1, (show ((b.drop 8).take 1).length = 1 by rw [List.length_take, List.length_drop]; omega) with
          | [x], _ => exact ⟨x, rfl⟩
        rw [← hkd, hx, num_one, Int.toNat_natCast, u8_of x _ (by have := u8_lt x; omega)]
      rw [b1, b2, b3]
      have e1 : b.drop 13 = (b.drop 13).take lo ++ (((b.drop 13).drop lo).take tl ++ (b.drop 13).drop (lo + tl)) := by
        rw [← List.drop_drop, List.take_append_drop, List.take_append_drop]
      conv => lhs; rw [e0, e1]
      simp only [List.append_assoc]
theorem lay_readN {z : Nat} (n : Nat) (b : Key) (l : List Ms) (s : Key) (h : readN n b = some (l, s)) (hm : ∀ m ∈ l, m.may z = true) : b = layL l ++ s ∧ l.length = n := by
  induction n generalizing b l with
  | zero => simp [readN] at h; obtain ⟨rfl, rfl⟩ := h; exact ⟨rfl, rfl⟩
  | succ n ih =>
    unfold readN at h
    split at h
    · cases h
    · rename_i m r h1
      split at h
      · cases h
      · rename_i l' s' h2
        simp only [Option.some.injEq, Prod.mk.injEq] at h
        obtain ⟨rfl, rfl⟩ := h
        obtain ⟨h3, h4⟩ := ih r l' h2 (fun x hx => hm x (List.mem_cons_of_mem _ hx))
        have h5 := lay_read1 h1 (hm m (List.mem_cons_self ..))
        exact ⟨by rw [h5, h3, layL_cons, List.append_assoc], by simp [h4]⟩
/-- What is read is written so again. -/
theorem lay_dec {z : Int} {b : Key} {l : List Ms} (h : decB z b = some l) : checkM z l = 0 ∧ layM l = b ∧ l.length < 4294967296 := by
  unfold decB at h
  split at h
  · cases h
  · rename_i h4
    split at h
    · rename_i l' hr
      split at h
      · rename_i hc
        cases h
        have hc' := checkM_zero.1 hc
        obtain ⟨h1, h2⟩ := lay_readN (z := z.toNat) _ _ _ _ hr (fun m hm => (hc'.2.1 m hm).1)
        rw [List.append_nil] at h1
        obtain ⟨x, y, u, v, hxy⟩ : ∃ x y u v, b.take 4 = [x, y, u, v] := by
          match hh : b.take 4, (show (b.take 4).length = 4 by rw [List.length_take]; omega) with
          | [x, y, u, v], _ => exact ⟨x, y, u, v, rfl⟩
        have hb := num_bound (b.take 4)
        rw [hxy] at hb
        refine ⟨hc, ?_, ?_⟩
        · rw [layM, h2, hxy, four_num, ← hxy, ← h1, List.take_append_drop]
        · rw [h2, hxy]; simpa using hb
      · cases h
    · cases h
end Go.Proofs.Ytkjjgbaoicjbaab
