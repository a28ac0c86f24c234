/- Split on lists. -/
import Derived.Test.YtaehchijeinloaaBranch
namespace Go.Proofs.Ytaehchijeinloaa

/-- The first number, from 2 on, of k numbers, whose f is the least; and that. -/
def splitF (f : Nat → Int) : Nat → Nat × Int
  | 0 => (0, 0)
  | k + 1 => if (splitF f k).1 = 0 ∨ f (k + 2) < (splitF f k).2 then (k + 2, f (k + 2)) else splitF f k
theorem splitF_spec (f : Nat → Int) (k : Nat) : (k = 0 → (splitF f k).1 = 0) ∧ (0 < k → 2 ≤ (splitF f k).1 ∧ (splitF f k).1 ≤ k + 1 ∧ (splitF f k).2 = f (splitF f k).1 ∧ ∀ m, 2 ≤ m → m ≤ k + 1 → f (splitF f k).1 ≤ f m ∧ (f m = f (splitF f k).1 → (splitF f k).1 ≤ m)) := by
  induction k with
  | zero => exact ⟨fun _ => rfl, fun h => absurd h (by omega)⟩
  | succ k ih =>
    refine ⟨fun h => (by omega), fun _ => ?_⟩
    unfold splitF
    by_cases hk : k = 0
    · subst hk
      rw [if_pos (.inl (ih.1 rfl))]
      refine ⟨by simp, by simp, rfl, fun m h1 h2 => ?_⟩
      have : m = 2 := by omega
      subst this
      simp
    · obtain ⟨h1, h2, h3, h4⟩ := ih.2 (by omega)
      split
      · rename_i h
        have hlt : f (k + 2) < f (splitF f k).1 := by rcases h with h | h <;> omega
        refine ⟨by simp, by simp, rfl, fun m hm1 hm2 => ?_⟩
        rcases Nat.lt_or_ge m (k + 2) with h | h
        · have := h4 m hm1 (by omega)
          constructor
          · show f (k + 2) ≤ f m; omega
          · show f m = f (k + 2) → _; omega
        · have : m = k + 2 := by omega
          subst this
          simp
      · rename_i h
        rw [not_or] at h
        refine ⟨h1, by omega, h3, fun m hm1 hm2 => ?_⟩
        rcases Nat.lt_or_ge m (k + 2) with h5 | h5
        · exact h4 m hm1 (by omega)
        · have : m = k + 2 := by omega
          subst this
          constructor
          · omega
          · intro _; omega
def firstK (d : Kd) (n : Nat) : Kd := ⟨d.ps.take n, d.ks.take (n - 1)⟩
def othersK (d : Kd) (n : Nat) : Kd := ⟨d.ps.drop n, d.ks.drop n⟩
def longK (W : Int → Int) (d : Kd) (n : Nat) : Int := max (W (bytesK (firstK d n))) (W (bytesK (othersK d n)))
def splitK (W : Int → Int) (z : Int) (d : Kd) : Nat × Nat :=
  if ¬ Sized z ∨ d.fit = false ∨ d.ps.length < 4 then (0, 1)
  else if z - 32 < (splitF (longK W d) (d.ps.length - 3)).2 then (0, 64) else ((splitF (longK W d) (d.ps.length - 3)).1, 0)
theorem splitK_ok {W : Int → Int} {z : Int} {d : Kd} (h : (splitK W z d).2 = 0) : Sized z ∧ d.fit = true ∧ 4 ≤ d.ps.length ∧ 2 ≤ (splitK W z d).1 ∧ (splitK W z d).1 + 2 ≤ d.ps.length ∧ longK W d (splitK W z d).1 ≤ z - 32 ∧
    ∀ m, 2 ≤ m → m + 2 ≤ d.ps.length → longK W d (splitK W z d).1 ≤ longK W d m ∧ (longK W d m = longK W d (splitK W z d).1 → (splitK W z d).1 ≤ m) := by
  unfold splitK at h ⊢
  split at h
  · cases h
  · rename_i h1
    rw [if_neg h1]
    simp only [not_or, Bool.not_eq_false] at h1
    split at h
    · cases h
    · rename_i h2
      rw [if_neg h2]
      obtain ⟨a, b, c, e⟩ := (splitF_spec (longK W d) (d.ps.length - 3)).2 (by omega)
      exact ⟨by simpa using h1.1, h1.2.1, by omega, a, by omega, by rw [← c]; omega, fun m hm1 hm2 => e m hm1 (by omega)⟩
theorem splitK_no {W : Int → Int} {z : Int} {d : Kd} (h : (splitK W z d).2 ≠ 0) : (splitK W z d).1 = 0 := by
  unfold splitK at h ⊢
  split
  · rfl
  · rename_i h1
    rw [if_neg h1] at h
    split
    · rfl
    · rename_i h2
      rw [if_neg h2] at h
      exact absurd rfl h
theorem bytesL_sub {a b : List Key} (h : a.Sublist b) : bytesL a ≤ bytesL b := by
  induction h with
  | slnil => exact Nat.le_refl _
  | cons x h ih => rw [bytesL_cons]; omega
  | cons_cons x h ih => rw [bytesL_cons, bytesL_cons]; omega
theorem part_check {z : Int} {d e : Kd} (h : checkK z d = 0) (hp : e.ps.Sublist d.ps) (hk : e.ks.Sublist d.ks) (hl : 2 ≤ e.ps.length) (hf : e.fit = true) : checkK z e = 0 := by
  obtain ⟨h1, h2, h3, h4, h5, h6, h7⟩ := checkK_ok h
  refine checkK_zero h1 hl hf (pages_iff.2 ⟨fun p hp' => (pages_iff.1 h4).1 p (hp.subset hp'), (pages_iff.1 h4).2.sublist hp⟩) (keys_iff.2 fun k hk' => keys_iff.1 h5 k (hk.subset hk')) (rise_iff.2 ((rise_iff.1 h6).sublist hk)) ?_
  have := bytesL_sub hk
  have := hp.length_le
  unfold bytesK at *
  omega
theorem first_check {z : Int} {d : Kd} {n : Nat} (h : checkK z d = 0) (h1 : 2 ≤ n) (h2 : n + 2 ≤ d.ps.length) : checkK z (firstK d n) = 0 ∧ checkK z (othersK d n) = 0 := by
  have hf := (fit_iff.1 (checkK_ok h).2.2.1).2
  refine ⟨part_check h (List.take_sublist _ _) (List.take_sublist _ _) (by simp [firstK]; omega) (fit_iff.2 ⟨by simp [firstK]; omega, by simp [firstK]; omega⟩),
    part_check h (List.drop_sublist _ _) (List.drop_sublist _ _) (by simp [othersK]; omega) (fit_iff.2 ⟨by simp [othersK]; omega, by simp [othersK]; omega⟩)⟩
end Go.Proofs.Ytaehchijeinloaa
