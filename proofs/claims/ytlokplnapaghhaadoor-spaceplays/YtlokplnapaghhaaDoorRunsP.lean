/- The runs of a set: what they are, one list alone, and which blocks they hold. -/
import Derived.Test.YtlokplnapaghhaaDoorSp
namespace Go.Proofs.YtlokplnapaghhaaDoor

/-- The runs from a place on. -/
inductive IsRuns (U : Nat → Bool) (n : Nat) : Nat → List (Nat × Nat) → Prop
  | nil {m : Nat} : IsNx U true n m n → IsRuns U n m []
  | cons {m a e : Nat} {L : List (Nat × Nat)} : IsNx U true n m a → a < n → IsNx U false n a e → IsRuns U n e L → IsRuns U n m ((a, e - a) :: L)
theorem IsNx.more {U : Nat → Bool} {n a e : Nat} (h : IsNx U false n a e) (ha : U a = true) (hl : a < n) : a < e := by
  rcases Nat.lt_or_eq_of_le h.le with h1 | h1
  · exact h1
  · subst h1
    have := h.hit hl
    rw [ha] at this
    cases this
theorem IsRuns.uniq {U : Nat → Bool} {n m : Nat} {L M : List (Nat × Nat)} (h : IsRuns U n m L) (h' : IsRuns U n m M) : L = M := by
  induction h generalizing M with
  | nil h1 =>
    cases h' with
    | nil _ => rfl
    | cons h2 h3 _ _ => have := h1.uniq h2; omega
  | cons h1 h2 h3 _ ih =>
    cases h' with
    | nil h4 => have := h1.uniq h4; omega
    | cons h4 h5 h6 h7 =>
      obtain rfl := h1.uniq h4
      obtain rfl := h3.uniq h6
      rw [ih h7]
theorem runsF_is (U : Nat → Bool) (n : Nat) : ∀ (fuel m : Nat), m ≤ n → n < m + fuel → IsRuns U n m (runsF U n fuel m)
  | 0, m, h1, h2 => by omega
  | fuel + 1, m, h1, h2 => by
    have ha := nx_is U true n n m h1 (by omega)
    unfold runsF
    by_cases hl : nx U true n n m < n
    · rw [if_pos hl]
      have he := nx_is U false n n (nx U true n n m) ha.top (by omega)
      have hm := he.more (ha.hit hl) hl
      have := ha.le
      exact .cons ha hl he (runsF_is U n fuel _ he.top (by omega))
    · rw [if_neg hl]
      have : nx U true n n m = n := by have := ha.top; omega
      rw [this] at ha
      exact .nil ha
theorem Sp.runs_is (s : Sp) : IsRuns s.has s.n 0 s.runs := runsF_is _ _ _ _ (Nat.zero_le _) (by omega)
/-- Runs that may be: each is there, and a free block is between two. -/
inductive Runs (n : Nat) : Nat → List (Nat × Nat) → Prop
  | nil {m : Nat} : Runs n m []
  | cons {m a c : Nat} {L : List (Nat × Nat)} : m ≤ a → 1 ≤ c → a + c ≤ n → Runs n (a + c + 1) L → Runs n m ((a, c) :: L)
theorem IsRuns.runs {U : Nat → Bool} {n m : Nat} {L : List (Nat × Nat)} (h : IsRuns U n m L) : ∀ k, (k = m ∨ (k = m + 1 ∧ (m < n → U m = false))) → Runs n k L := by
  induction h with
  | nil _ => intro k _; exact .nil
  | cons h1 h2 h3 _ ih =>
    intro k hk
    have hm := h3.more (h1.hit h2) h2
    have ht := h3.top
    have hle := h1.le
    refine .cons ?_ (by omega) (by omega) ?_
    · rcases hk with rfl | ⟨rfl, hf⟩
      · exact hle
      · rename_i m a e L _
        have : m ≠ a := by
          rintro rfl
          have := hf h2
          rw [h1.hit h2] at this
          cases this
        omega
    · apply ih
      right
      refine ⟨by omega, fun hl => h3.hit hl⟩
theorem Sp.runs_runs (s : Sp) : Runs s.n 0 s.runs := s.runs_is.runs 0 (.inl rfl)
/-- The blocks that runs hold. -/
def inRuns (L : List (Nat × Nat)) (k : Nat) : Bool := L.any fun r => decide (r.1 ≤ k) && decide (k < r.1 + r.2)
theorem inRuns_cons (a c k : Nat) (L : List (Nat × Nat)) : inRuns ((a, c) :: L) k = ((decide (a ≤ k) && decide (k < a + c)) || inRuns L k) := rfl
theorem Runs.low {n m : Nat} {L : List (Nat × Nat)} (h : Runs n m L) {k : Nat} (hk : k < m) : inRuns L k = false := by
  induction h with
  | nil => rfl
  | cons h1 h2 h3 _ ih =>
    rw [inRuns_cons, ih (by omega)]
    simp; omega
theorem Runs.high {n m : Nat} {L : List (Nat × Nat)} (h : Runs n m L) {k : Nat} (hk : n ≤ k) : inRuns L k = false := by
  induction h with
  | nil => rfl
  | cons h1 h2 h3 _ ih =>
    rw [inRuns_cons, ih]
    simp; omega
theorem IsRuns.said {U : Nat → Bool} {n m : Nat} {L : List (Nat × Nat)} (h : IsRuns U n m L) : ∀ k, m ≤ k → k < n → U k = inRuns L k := by
  induction h with
  | nil h1 => intro k h2 h3; rw [h1.not k h2 h3]; rfl
  | cons h1 h2 h3 h4 ih =>
    intro k h5 h6
    rename_i m a e L
    have hm := h3.more (h1.hit h2) h2
    rw [inRuns_cons]
    by_cases ha : k < a
    · rw [h1.not k h5 ha, (h4.runs e (.inl rfl)).low (by omega)]
      simp; omega
    · by_cases he : k < e
      · rw [h3.not k (by omega) he]
        simp; omega
      · rw [ih k (by omega) h6]
        have : decide (k < a + (e - a)) = false := by simp; omega
        rw [this]
        simp
/-- Runs that may be are those of their blocks. -/
theorem Runs.is {n m : Nat} {L : List (Nat × Nat)} (h : Runs n m L) (hm : m ≤ n + 1) : ∀ k, (k = m ∨ k + 1 = m) → k ≤ n → IsRuns (inRuns L) n k L := by
  induction h with
  | nil => intro k _ hk; exact .nil ⟨hk, Nat.le_refl _, fun j _ _ => rfl, fun h => by omega⟩
  | cons h1 h2 h3 h4 ih =>
    intro k hk hkn
    rename_i m a c L
    have hlow := fun j (hj : j < a + c + 1) => h4.low hj
    have U : ∀ j, inRuns ((a, c) :: L) j = ((decide (a ≤ j) && decide (j < a + c)) || inRuns L j) := fun j => inRuns_cons a c j L
    have e1 : IsNx (inRuns ((a, c) :: L)) true n k a := by
      refine ⟨by omega, by omega, fun j h5 h6 => ?_, fun _ => ?_⟩
      · rw [U, hlow j (by omega)]; simp; omega
      · rw [U]; simp; omega
    have e2 : IsNx (inRuns ((a, c) :: L)) false n a (a + c) := by
      refine ⟨by omega, h3, fun j h5 h6 => ?_, fun _ => ?_⟩
      · rw [U]; simp; omega
      · rw [U, hlow _ (by omega)]; simp
    have e3 := ih (by omega) (a + c) (.inr rfl) h3
    have e4 : IsRuns (inRuns ((a, c) :: L)) n (a + c) L := by
      have key : ∀ {k' : Nat} {M : List (Nat × Nat)}, IsRuns (inRuns L) n k' M → a + c ≤ k' → IsRuns (inRuns ((a, c) :: L)) n k' M := by
        intro k' M hM
        have V : ∀ j, a + c ≤ j → inRuns ((a, c) :: L) j = inRuns L j := fun j hj => by
          rw [U]
          have : decide (j < a + c) = false := by simp; omega
          rw [this]; simp
        induction hM with
        | nil g1 => intro hh; exact .nil ⟨g1.le, g1.top, fun j h5 h6 => by rw [V j (by omega)]; exact g1.not j h5 h6, fun h => by omega⟩
        | cons g1 g2 g3 _ ih2 =>
          intro hh
          have l1 := g1.le
          have l3 := g3.le
          exact .cons ⟨g1.le, g1.top, fun j h5 h6 => by rw [V j (by omega)]; exact g1.not j h5 h6, fun h => by rw [V _ (by omega)]; exact g1.hit h⟩ g2 ⟨g3.le, g3.top, fun j h5 h6 => by rw [V j (by omega)]; exact g3.not j h5 h6, fun h => by rw [V _ (by omega)]; exact g3.hit h⟩ (ih2 (by omega))
      exact key e3 (Nat.le_refl _)
    have := IsRuns.cons e1 (by omega) e2 e4
    rwa [Nat.add_sub_cancel_left] at this
theorem IsRuns.ext {U V : Nat → Bool} {n m : Nat} {L : List (Nat × Nat)} (h : IsRuns U n m L) (hUV : ∀ k, k < n → U k = V k) : IsRuns V n m L := by
  induction h with
  | nil g1 => exact .nil ⟨g1.le, g1.top, fun j h5 h6 => by rw [← hUV j (by omega)]; exact g1.not j h5 h6, fun h => by omega⟩
  | cons g1 g2 g3 _ ih =>
    have t3 := g3.top
    exact .cons ⟨g1.le, g1.top, fun j h5 h6 => by rw [← hUV j (by omega)]; exact g1.not j h5 h6, fun h => by rw [← hUV _ h]; exact g1.hit h⟩ g2 ⟨g3.le, g3.top, fun j h5 h6 => by rw [← hUV j (by omega)]; exact g3.not j h5 h6, fun h => by rw [← hUV _ h]; exact g3.hit h⟩ ih
theorem Sp.runs_ext {s t : Sp} (hn : s.n = t.n) (h : ∀ k, k < s.n → s.has k = t.has k) : s.runs = t.runs := by
  have h1 := s.runs_is.ext h
  rw [hn] at h1
  exact h1.uniq t.runs_is
theorem Sp.runs_of {s : Sp} {L : List (Nat × Nat)} (hL : Runs s.n 0 L) (h : ∀ k, k < s.n → s.has k = inRuns L k) : s.runs = L := by
  have h1 := s.runs_is.ext h
  exact h1.uniq (hL.is (by omega) 0 (.inl rfl) (Nat.zero_le _))
theorem Sp.runs_has (s : Sp) {k : Nat} (hk : k < s.n) : s.has k = inRuns s.runs k := s.runs_is.said k (Nat.zero_le _) hk
theorem IsRuns.length {U : Nat → Bool} {n m : Nat} {L : List (Nat × Nat)} (h : IsRuns U n m L) : m + L.length ≤ n := by
  induction h with
  | nil h1 => exact h1.le
  | cons h1 h2 h3 _ ih =>
    have hm := h3.more (h1.hit h2) h2
    have := h1.le
    simp only [List.length_cons]
    omega
theorem Sp.runs_length (s : Sp) : s.runs.length ≤ s.n := by have := s.runs_is.length; omega
end Go.Proofs.YtlokplnapaghhaaDoor
