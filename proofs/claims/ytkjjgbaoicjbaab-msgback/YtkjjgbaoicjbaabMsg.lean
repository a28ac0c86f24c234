/- Messages as lists: what they say, which one decides a key, where what is said may change. -/
import Derived.Test.YtkjjgbaoicjbaabKeys
namespace Go.Proofs.Ytkjjgbaoicjbaab

/-- A message. -/
structure Ms where
  st : Nat
  kd : Int
  lo : Key
  hi : Key
  va : Key
  deriving DecidableEq, Inhabited
namespace Ms
/-- The keys of which it says something. -/
def rg (m : Ms) : Rg := if m.kd = 1 ∨ m.kd = 2 then ⟨m.lo, m.lo ++ [0], false⟩ else if m.kd = 3 then ⟨m.lo, m.hi, false⟩ else Rg.zero
def says (m : Ms) (k : Key) : Bool := m.rg.has k
theorem rg_all (m : Ms) : m.rg.all = false := by
  unfold rg
  split
  · rfl
  · split <;> rfl
theorem just_has (a k : Key) : Rg.has ⟨a, a ++ [0], false⟩ k = decide (a = k) := by
  have h1 := lt_append a 0 []
  have h2 := next_least a k
  unfold Rg.has
  by_cases h : a = k
  · subst h; simp; grind
  · simp only [h, decide_false, Bool.false_or, Bool.and_eq_false_iff, decide_eq_false_iff_not]
    by_cases h4 : a < k
    · right; have := h2 h4; grind
    · left; grind
theorem says_one (m : Ms) (k : Key) (h : m.kd = 1 ∨ m.kd = 2) : m.says k = decide (m.lo = k) := by
  unfold says rg; rw [if_pos h, just_has]
theorem says_range (m : Ms) (k : Key) (h : m.kd = 3) : m.says k = (decide (m.lo ≤ k) && decide (k < m.hi)) := by
  unfold says rg; rw [if_neg (by omega), if_pos h]; simp [Rg.has]
theorem zero_has (k : Key) : Rg.zero.has k = false := by
  simp [Rg.has, Rg.zero]
theorem says_none (m : Ms) (k : Key) (h : ¬ (m.kd = 1 ∨ m.kd = 2)) (h3 : m.kd ≠ 3) : m.says k = false := by
  unfold says rg; rw [if_neg h, if_neg h3, zero_has]
end Ms

/-- Which message is the last that says something of a key (-1: none). -/
def lastM : List Ms → Key → Int
  | [], _ => -1
  | m :: r, k => if 0 ≤ lastM r k then lastM r k + 1 else if m.says k then 0 else -1
def lastD (M : List Ms) (i : Nat) (k : Key) : Int := if 0 ≤ lastM (M.drop i) k then lastM (M.drop i) k + i else -1
theorem lastM_ge (M : List Ms) (k : Key) : -1 ≤ lastM M k := by
  induction M with
  | nil => simp [lastM]
  | cons m r ih =>
    unfold lastM
    split
    · omega
    · split <;> omega
theorem lastM_neg {M : List Ms} {k : Key} : lastM M k < 0 ↔ lastM M k = -1 := by have := lastM_ge M k; omega
theorem lastD_zero (M : List Ms) (k : Key) : lastD M 0 k = lastM M k := by
  have := lastM_ge M k
  unfold lastD; simp only [List.drop_zero]; split <;> omega
theorem lastD_end (M : List Ms) (k : Key) (i : Nat) (h : M.length ≤ i) : lastD M i k = -1 := by
  unfold lastD; rw [List.drop_of_length_le h]; simp [lastM]
theorem lastD_step (M : List Ms) (k : Key) (i : Nat) (m : Ms) (h : M[i]? = some m) : lastD M i k = if 0 ≤ lastD M (i + 1) k then lastD M (i + 1) k else if m.says k then (i : Int) else -1 := by
  obtain ⟨h1, rfl⟩ := List.getElem?_eq_some_iff.1 h
  have := lastM_ge (M.drop (i + 1)) k
  unfold lastD
  rw [List.drop_eq_getElem_cons h1]
  simp only [lastM]
  split <;> split <;> split <;> (try split) <;> (try split) <;> (try simp_all) <;> omega
theorem lastM_none {M : List Ms} {k : Key} (h : lastM M k < 0) : ∀ m ∈ M, m.says k = false := by
  induction M with
  | nil => intro m hm; simp at hm
  | cons a r ih =>
    unfold lastM at h
    split at h
    · omega
    · split at h
      · omega
      · rename_i h1 h2
        intro m hm
        rcases List.mem_cons.1 hm with rfl | hm
        · simpa using h2
        · exact ih (by omega) m hm
theorem lastM_some {M : List Ms} {k : Key} (h : 0 ≤ lastM M k) : ∃ (i : Nat) (m : Ms), lastM M k = i ∧ M[i]? = some m ∧ m.says k = true ∧ ∀ j x, i < j → M[j]? = some x → x.says k = false := by
  induction M with
  | nil => simp [lastM] at h
  | cons a r ih =>
    unfold lastM at h ⊢
    by_cases h0 : 0 ≤ lastM r k
    · obtain ⟨i, m, h1, h2, h3, h4⟩ := ih h0
      rw [if_pos h0, h1]
      refine ⟨i + 1, m, by simp, by simpa using h2, h3, fun j x hj hx => ?_⟩
      cases j with
      | zero => omega
      | succ j => exact h4 j x (by omega) (by simpa using hx)
    · rw [if_neg h0] at h ⊢
      split at h
      · rename_i h1
        rw [if_pos h1]
        refine ⟨0, a, rfl, rfl, h1, fun j x hj hx => ?_⟩
        cases j with
        | zero => omega
        | succ j => exact lastM_none (M := r) (by omega) x (List.mem_of_getElem? (i := j) (by simpa using hx))
      · omega
/-- What is said of a key hangs on what each message says of it alone. -/
theorem lastM_congr {M : List Ms} {k k' : Key} (h : ∀ m ∈ M, m.says k = m.says k') : lastM M k = lastM M k' := by
  induction M with
  | nil => rfl
  | cons a r ih =>
    unfold lastM
    rw [ih fun m hm => h m (List.mem_cons_of_mem _ hm), h a (List.mem_cons_self ..)]
theorem lastM_lt (M : List Ms) (k : Key) : lastM M k < M.length := by
  by_cases h : 0 ≤ lastM M k
  · obtain ⟨i, m, h1, h2, _⟩ := lastM_some h
    have := (List.getElem?_eq_some_iff.1 h2).1
    omega
  · omega

/-- Where what is said may change. -/
structure IsCuts (M : List Ms) (C : List Key) : Prop where
  rise : C.Pairwise (· < ·)
  mem : ∀ k, k ∈ C ↔ ∃ m ∈ M, m.rg.empty = false ∧ (k = m.rg.lo ∨ k = m.rg.hi)
theorem rise_unique {a b : List Key} (ha : a.Pairwise (· < ·)) (hb : b.Pairwise (· < ·)) (h : ∀ k, k ∈ a ↔ k ∈ b) : a = b := by
  induction a generalizing b with
  | nil =>
    cases b with
    | nil => rfl
    | cons y s => have := (h y).2 (List.mem_cons_self ..); simp at this
  | cons x r ih =>
    cases b with
    | nil => have := (h x).1 (List.mem_cons_self ..); simp at this
    | cons y s =>
      rw [List.pairwise_cons] at ha hb
      have hxy : x = y := by
        rcases List.mem_cons.1 ((h x).1 (List.mem_cons_self ..)) with e | e
        · exact e
        · rcases List.mem_cons.1 ((h y).2 (List.mem_cons_self ..)) with e' | e'
          · exact e'.symm
          · have := ha.1 y e'; have := hb.1 x e; grind
      subst hxy
      rw [ih ha.2 hb.2]
      intro k
      constructor
      · intro hk
        rcases List.mem_cons.1 ((h k).1 (List.mem_cons_of_mem _ hk)) with rfl | e
        · have := ha.1 k hk; grind
        · exact e
      · intro hk
        rcases List.mem_cons.1 ((h k).2 (List.mem_cons_of_mem _ hk)) with rfl | e
        · have := hb.1 k hk; grind
        · exact e
theorem IsCuts.unique {M : List Ms} {C D : List Key} (h : IsCuts M C) (h' : IsCuts M D) : C = D := rise_unique h.rise h'.rise fun k => by rw [h.mem, h'.mem]
theorem IsCuts.lt {M : List Ms} {C : List Key} (h : IsCuts M C) {i j : Nat} {a b : Key} (hij : i < j) (hi : C[i]? = some a) (hj : C[j]? = some b) : a < b := by
  obtain ⟨h1, rfl⟩ := List.getElem?_eq_some_iff.1 hi
  obtain ⟨h2, rfl⟩ := List.getElem?_eq_some_iff.1 hj
  exact List.pairwise_iff_getElem.1 h.rise i j h1 h2 hij
/-- Behind the last cut nothing is said. -/
theorem IsCuts.last {M : List Ms} {C : List Key} (h : IsCuts M C) {i : Nat} {a : Key} (hi : C[i]? = some a) (hs : 0 ≤ lastM M a) : i + 1 < C.length := by
  obtain ⟨n, m, _, h2, h3, _⟩ := lastM_some hs
  have he : m.rg.empty = false := Rg.not_empty _ _ h3
  have hm : m.rg.hi ∈ C := (h.mem _).2 ⟨m, List.mem_of_getElem? h2, he, .inr rfl⟩
  obtain ⟨j, hj⟩ := List.getElem?_of_mem hm
  have h4 : a < m.rg.hi := by
    unfold Ms.says Rg.has at h3
    rw [m.rg_all] at h3
    simpa using (Bool.and_eq_true_iff.1 h3).2
  have hl := (List.getElem?_eq_some_iff.1 hj).1
  rcases Nat.lt_trichotomy i j with h5 | h5 | h5
  · omega
  · subst h5; rw [hi] at hj; cases hj; grind
  · have := h.lt h5 hj hi; grind
/-- Between two cuts each message says of all keys the same. -/
theorem IsCuts.between {M : List Ms} {C : List Key} (h : IsCuts M C) {i : Nat} {a k : Key} (hi : C[i]? = some a) (h1 : a ≤ k) (h2 : ∀ b, C[i + 1]? = some b → k < b) (m : Ms) (hm : m ∈ M) : m.says k = m.says a := by
  unfold Ms.says Rg.has
  rw [m.rg_all]
  by_cases he : m.rg.empty = true
  · have : m.rg.hi ≤ m.rg.lo := by unfold Rg.empty at he; rw [m.rg_all] at he; simpa using he
    by_cases h3 : m.rg.lo ≤ k <;> by_cases h4 : m.rg.lo ≤ a <;> simp [h3, h4] <;> grind
  · have he' : m.rg.empty = false := by simpa using he
    obtain ⟨x, hx⟩ := List.getElem?_of_mem ((h.mem _).2 ⟨m, hm, he', .inl rfl⟩)
    obtain ⟨y, hy⟩ := List.getElem?_of_mem ((h.mem _).2 ⟨m, hm, he', .inr rfl⟩)
    have hX : m.rg.lo ≤ k ↔ m.rg.lo ≤ a := by
      constructor
      · intro h3
        rcases Nat.lt_trichotomy x i with h4 | h4 | h4
        · have := h.lt h4 hx hi; grind
        · subst h4; rw [hi] at hx; cases hx; grind
        · obtain ⟨b, hb⟩ : ∃ b, C[i + 1]? = some b := ⟨_, List.getElem?_eq_getElem (by have := (List.getElem?_eq_some_iff.1 hx).1; omega)⟩
          have h5 := h2 b hb
          rcases Nat.lt_or_ge (i + 1) x with h6 | h6
          · have := h.lt h6 hb hx; grind
          · have : x = i + 1 := by omega
            subst this; rw [hb] at hx; cases hx; grind
      · intro h3; grind
    have hY : k < m.rg.hi ↔ a < m.rg.hi := by
      constructor
      · intro h3; grind
      · intro h3
        rcases Nat.lt_trichotomy y i with h4 | h4 | h4
        · have := h.lt h4 hy hi; grind
        · subst h4; rw [hi] at hy; cases hy; grind
        · obtain ⟨b, hb⟩ : ∃ b, C[i + 1]? = some b := ⟨_, List.getElem?_eq_getElem (by have := (List.getElem?_eq_some_iff.1 hy).1; omega)⟩
          have h5 := h2 b hb
          rcases Nat.lt_or_ge (i + 1) y with h6 | h6
          · have := h.lt h6 hb hy; grind
          · have : y = i + 1 := by omega
            subst this; rw [hb] at hy; cases hy; exact h5
    simp only [hX, hY]
/-- Ahead of the first cut nothing is said. -/
theorem IsCuts.ahead {M : List Ms} {C : List Key} (h : IsCuts M C) {k : Key} (hk : ∀ a, C[0]? = some a → k < a) (m : Ms) (hm : m ∈ M) : m.says k = false := by
  cases hs : m.says k with
  | false => rfl
  | true =>
    have he : m.rg.empty = false := Rg.not_empty _ _ hs
    obtain ⟨x, hx⟩ := List.getElem?_of_mem ((h.mem _).2 ⟨m, hm, he, .inl rfl⟩)
    have h1 : m.rg.lo ≤ k := by
      unfold Ms.says Rg.has at hs
      simpa using (Bool.and_eq_true_iff.1 hs).1
    obtain ⟨a, ha⟩ : ∃ a, C[0]? = some a := ⟨_, List.getElem?_eq_getElem (by have := (List.getElem?_eq_some_iff.1 hx).1; omega)⟩
    have h2 := hk a ha
    rcases Nat.eq_zero_or_pos x with rfl | h3
    · rw [ha] at hx; cases hx; grind
    · have := h.lt h3 ha hx; grind
end Go.Proofs.Ytkjjgbaoicjbaab
