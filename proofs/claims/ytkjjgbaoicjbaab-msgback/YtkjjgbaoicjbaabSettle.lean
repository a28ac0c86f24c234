/- Settle and Within on lists. -/
import Derived.Test.YtkjjgbaoicjbaabMsgB
namespace Go.Proofs.Ytkjjgbaoicjbaab

/-- Which messages decide a key. -/
def decidesM (M : List Ms) (C : List Key) (i : Nat) : Bool := decide ((i : Int) ∈ C.map (lastM M))
def settleN (M : List Ms) (C : List Key) : Nat → List Ms
  | 0 => []
  | n + 1 => if decidesM M C n then settleN M C n ++ M[n]?.toList else settleN M C n
def settleM (M : List Ms) (C : List Key) : List Ms := settleN M C M.length
theorem settleN_sub (M : List Ms) (C : List Key) (n : Nat) : (settleN M C n).Sublist (M.take n) := by
  induction n with
  | zero => simp [settleN]
  | succ n ih =>
    unfold settleN
    rw [List.take_add_one]
    split
    · exact List.Sublist.append ih (List.Sublist.refl _)
    · exact ih.trans (List.sublist_append_left _ _)
theorem settleM_sub (M : List Ms) (C : List Key) : (settleM M C).Sublist M := by
  have := settleN_sub M C M.length
  rw [List.take_length] at this
  exact this
theorem settleN_step {M : List Ms} {C : List Key} {n : Nat} {m : Ms} (h : M[n]? = some m) : settleN M C (n + 1) = if decidesM M C n then settleN M C n ++ [m] else settleN M C n := by
  rw [settleN, h]; rfl
/-- A message as it acts on the keys of a range. -/
def cutM (r : Rg) (m : Ms) : Option Ms :=
  if m.kd = 1 ∨ m.kd = 2 then (if r.has m.lo then some m else none)
  else if m.kd = 3 then (if (Rg.meet m.rg r).empty then none else some ⟨m.st, m.kd, (Rg.meet m.rg r).lo, (Rg.meet m.rg r).hi, m.va⟩)
  else none
def withinM (M : List Ms) (r : Rg) : List Ms := M.filterMap (cutM r)
theorem withinM_append (M N : List Ms) (r : Rg) : withinM (M ++ N) r = withinM M r ++ withinM N r := by simp [withinM]
theorem withinM_take {M : List Ms} {r : Rg} {n : Nat} {m : Ms} (h : M[n]? = some m) : withinM (M.take (n + 1)) r = withinM (M.take n) r ++ (cutM r m).toList := by
  rw [List.take_add_one, h, withinM_append]
  cases hc : cutM r m <;> simp [withinM, hc]
theorem may_range {z : Nat} {m : Ms} (hk : m.kd = 3) : m.may z = true ↔ (1 ≤ m.lo.length ∧ m.lo.length ≤ z / 16) ∧ m.hi.length ≤ z / 16 ∧ m.lo < m.hi ∧ m.va = [] := by
  unfold Ms.may
  rw [if_neg (by omega), if_neg (by omega), if_pos hk]
  simp
theorem cutM_st {r : Rg} {m x : Ms} (h : cutM r m = some x) : x.st = m.st := by
  unfold cutM at h
  split at h
  · split at h
    · cases h; rfl
    · cases h
  · split at h
    · split at h
      · cases h
      · cases h; rfl
    · cases h
theorem cutM_may {r : Rg} {m x : Ms} {z : Nat} (h : cutM r m = some x) (hm : m.may z = true) (h1 : r.lo.length ≤ z / 16) (h2 : r.hi.length ≤ z / 16) : x.may z = true := by
  unfold cutM at h
  split at h
  · split at h
    · cases h; exact hm
    · cases h
  · rename_i hk12
    split at h
    · rename_i hk
      split at h
      · cases h
      · rename_i he
        cases h
        have he' : (Rg.meet m.rg r).empty = false := by simpa using he
        rw [may_range hk] at hm
        refine (may_range (m := ⟨m.st, m.kd, (Rg.meet m.rg r).lo, (Rg.meet m.rg r).hi, m.va⟩) hk).2 ?_
        simp only
        obtain ⟨⟨h3, h4⟩, h5, h6, h7⟩ := hm
        have hrg : m.rg = ⟨m.lo, m.hi, false⟩ := by unfold Ms.rg; rw [if_neg hk12, if_pos hk]
        have hm0 : (Rg.meet m.rg r) = Rg.meet0 m.rg r := by
          have e1 : (Rg.meet0 m.rg r).all = false := by rw [hrg]; rfl
          unfold Rg.meet at he' ⊢
          rw [Rg.form_empty] at he'
          unfold Rg.form
          rw [he', e1]
          simp
        rw [hm0] at he' ⊢
        rw [hrg] at he' ⊢
        unfold Rg.empty Rg.meet0 at he'
        simp only [Bool.false_and, Bool.not_false, Bool.true_and, decide_eq_false_iff_not, Bool.false_or] at he'
        unfold Rg.meet0
        simp only [Bool.false_or]
        refine ⟨?_, ?_, ?_, h7⟩
        · split
          · rename_i hlt
            refine ⟨?_, h1⟩
            cases hr : r.lo with
            | nil => rw [hr] at hlt; simp at hlt
            | cons a b => simp
          · exact ⟨h3, h4⟩
        · split
          · exact h2
          · exact h5
        · grind
    · cases h
theorem within_check {z : Int} {M : List Ms} {r : Rg} (h : checkM z M = 0) (h1 : r.lo.length ≤ z.toNat / 16) (h2 : r.hi.length ≤ z.toNat / 16) : checkM z (withinM M r) = 0 := by
  rw [checkM_zero] at h ⊢
  refine ⟨h.1, fun x hx => ?_, ?_⟩
  · obtain ⟨m, hm, hc⟩ := List.mem_filterMap.1 hx
    have h3 := h.2.1 m hm
    rw [cutM_st hc]
    exact ⟨cutM_may hc h3.1 h1 h2, h3.2⟩
  · exact h.2.2.filterMap _ fun a b hab x hx y hy => by rw [cutM_st hx, cutM_st hy]; exact hab
end Go.Proofs.Ytkjjgbaoicjbaab
