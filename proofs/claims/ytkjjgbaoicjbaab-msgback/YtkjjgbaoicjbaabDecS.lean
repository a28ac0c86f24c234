/- Reading, short or not, on lists. -/
import Derived.Test.YtkjjgbaoicjbaabMessage
namespace Go.Proofs.Ytkjjgbaoicjbaab
open Go.RowKit

theorem takeS_ok {s : Key × Bool} {n : Nat} (h : (takeS s n).2.2 = false) : s.2 = false ∧ n ≤ s.1.length ∧ takeS s n = (s.1.take n, (s.1.drop n, false)) := by
  unfold takeS at h ⊢
  split at h
  · cases h
  · next hl =>
    simp only at h
    rw [if_neg hl, h]
    exact ⟨rfl, by omega, rfl⟩
theorem takeS_is {b : Key} {n : Nat} (h : n ≤ b.length) : takeS (b, false) n = (b.take n, (b.drop n, false)) := by
  unfold takeS; rw [if_neg (by simp; omega)]
theorem msgS_is {b r : Key} {m : Ms} (h : read1 b = some (m, r)) : msgS (b, false) = (m, (r, false)) := by
  unfold read1 at h
  split at h
  · cases h
  · next h13 =>
    split at h
    · cases h
    · next hl =>
      simp only [Option.some.injEq, Prod.mk.injEq] at h
      obtain ⟨rfl, rfl⟩ := h
      simp only [msgS]
      rw [takeS_is (by omega)]
      simp only
      rw [takeS_is (by simp; omega)]
      simp only [List.drop_drop]
      rw [takeS_is (by simp; omega)]
      simp only [List.drop_drop]
      rw [takeS_is (by simp; omega)]
      simp only [List.drop_drop]
      rw [List.length_drop] at hl
      rw [takeS_is (by simp; omega)]
      simp only [List.drop_drop]
      rw [takeS_is (by simp; omega)]
      simp only [List.drop_drop]
      have e1 : ((num (List.take 1 (List.drop 8 b)) : Int) = 1) = (num (List.take 1 (List.drop 8 b)) = 1) := by apply propext; omega
      simp only [e1, Nat.reduceAdd]
      simp only [Nat.add_assoc]
theorem msgS_ok {s : Key × Bool} (h : (msgS s).2.2 = false) : s.2 = false ∧ read1 s.1 = some ((msgS s).1, (msgS s).2.1) := by
  have h0 := h
  simp only [msgS] at h
  obtain ⟨h6, l6, e6⟩ := takeS_ok h
  obtain ⟨h5, l5, e5⟩ := takeS_ok h6
  obtain ⟨h4, l4, e4⟩ := takeS_ok h5
  obtain ⟨h3, l3, e3⟩ := takeS_ok h4
  obtain ⟨h2, l2, e2⟩ := takeS_ok h3
  obtain ⟨h1, l1, e1⟩ := takeS_ok h2
  refine ⟨h1, ?_⟩
  obtain ⟨b, sh⟩ := s
  simp only at h1
  subst h1
  rw [e1] at l2 e2 e3 e4 e5 e6 l3 l4 l5 l6
  simp only at l2 e2 e3 e4 e5 e6 l3 l4 l5 l6 l1
  rw [e2] at l3 e3 e4 e5 e6 l4 l5 l6
  simp only at l3 e3 e4 e5 e6 l4 l5 l6
  rw [e3] at l4 e4 e5 e6 l5 l6
  simp only at l4 e4 e5 e6 l5 l6
  rw [e4] at l5 e5 e6 l6
  simp only at l5 e5 e6 l6
  rw [e5] at l6 e6
  simp only at l6 e6
  simp only [List.drop_drop, List.length_drop] at l1 l2 l3 l4 l5 l6
  cases hr : read1 b with
  | none =>
    exfalso
    unfold read1 at hr
    rw [if_neg (by omega), if_neg (by rw [List.length_drop]; simp only [Nat.reduceAdd] at l5 l6; omega)] at hr
    cases hr
  | some p => rw [msgS_is (m := p.1) (r := p.2) hr]
theorem readN_snoc {k : Nat} {b l s} (h : readN k b = some (l, s)) : readN (k + 1) b = (read1 s).map fun p => (l ++ [p.1], p.2) := by
  induction k generalizing b l with
  | zero =>
    simp only [readN, Option.some.injEq, Prod.mk.injEq] at h
    obtain ⟨rfl, rfl⟩ := h
    simp only [readN]
    cases read1 b <;> rfl
  | succ k ih =>
    rw [readN] at h
    cases h1 : read1 b with
    | none => rw [h1] at h; cases h
    | some p =>
      obtain ⟨m, r⟩ := p
      rw [h1] at h
      simp only at h
      cases h2 : readN k r with
      | none => rw [h2] at h; cases h
      | some q =>
        obtain ⟨l', s'⟩ := q
        rw [h2] at h
        simp only [Option.some.injEq, Prod.mk.injEq] at h
        obtain ⟨rfl, rfl⟩ := h
        rw [readN, h1]
        simp only
        rw [ih h2]
        cases read1 s' <;> rfl
theorem readN_none {k : Nat} {b : Key} (h : readN k b = none) (n : Nat) : readN (k + n) b = none := by
  induction k generalizing b with
  | zero => cases h
  | succ k ih =>
    rw [show k + 1 + n = (k + n) + 1 by omega, readN]
    rw [readN] at h
    cases h1 : read1 b with
    | none => rfl
    | some p =>
      obtain ⟨m, r⟩ := p
      rw [h1] at h
      simp only at h ⊢
      cases h2 : readN k r with
      | none => rw [ih h2]
      | some q => rw [h2] at h; cases h
/-- How far reading has come. -/
structure ReadTo (b : Key) (k : Nat) (l : List Ms) (s : Key × Bool) : Prop where
  ok : s.2 = false → readN k b = some (l, s.1)
  no : s.2 = true → readN k b = none
theorem ReadTo.step {b : Key} {k : Nat} {l : List Ms} {s : Key × Bool} (h : ReadTo b k l s) (hs : s.2 = false) : ReadTo b (k + 1) (l ++ [(msgS s).1]) (msgS s).2 := by
  have hk := readN_snoc (h.ok hs)
  constructor
  · intro h1
    rw [hk, (msgS_ok h1).2]; rfl
  · intro h1
    rw [hk]
    cases hr : read1 s.1 with
    | none => rfl
    | some p =>
      have hs' : s = (s.1, false) := by rw [← hs]
      have := msgS_is (m := p.1) (r := p.2) hr
      rw [← hs'] at this
      rw [this] at h1
      cases h1
/-- What Decode tells. -/
def decR (z : Int) (b : Key) : List Ms × Nat := if ¬ Sized z then ([], 1) else match decB z b with
  | none => ([], 73)
  | some l => (l, 0)
theorem decR_arg {z : Int} (h : ¬ Sized z) (b : Key) : decR z b = ([], 1) := by unfold decR; rw [if_pos h]
theorem decR_few {z : Int} (h : Sized z) {b : Key} (hb : b.length < 4) : decR z b = ([], 73) := by
  unfold decR decB; rw [if_neg (by simpa using h), if_pos hb]
theorem decR_none {z : Int} (h : Sized z) {b : Key} (hb : 4 ≤ b.length) {k : Nat} (hk : k ≤ num (b.take 4)) (hn : readN k (b.drop 4) = none) : decR z b = ([], 73) := by
  have := readN_none hn (num (b.take 4) - k)
  rw [show k + (num (b.take 4) - k) = num (b.take 4) by omega] at this
  unfold decR decB; rw [if_neg (by simpa using h), if_neg (by omega), this]
theorem decR_some {z : Int} (h : Sized z) {b : Key} (hb : 4 ≤ b.length) {l : List Ms} {s : Key} (hn : readN (num (b.take 4)) (b.drop 4) = some (l, s)) : decR z b = if s = [] ∧ checkM z l = 0 then (l, 0) else ([], 73) := by
  unfold decR decB; rw [if_neg (by simpa using h), if_neg (by omega), hn]
  cases s with
  | nil =>
    simp only [true_and]
    by_cases hc : checkM z l = 0
    · rw [if_pos hc, if_pos hc]
    · rw [if_neg hc, if_neg hc]
  | cons x s => simp
end Go.Proofs.Ytkjjgbaoicjbaab
