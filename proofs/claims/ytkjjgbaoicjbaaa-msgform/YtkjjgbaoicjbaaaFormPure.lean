/- What pieces say of a key, as the law counts it. -/
import Derived.Test.YtkjjgbaoicjbaaaPieces
namespace Go.Proofs.Ytkjjgbaoicjbaaa

structure OfS where
  n : Nat
  is : Bool
  v : Key
  deriving DecidableEq
def ofStep (k : Key) (s : OfS) (p : Pc) : OfS := if p.says k then ⟨s.n + 1, s.is || p.put, if p.put then p.v else s.v⟩ else s
def ofP (P : List Pc) (k : Key) : OfS := P.foldl (ofStep k) ⟨0, false, []⟩
theorem ofP_nil (k : Key) : ofP [] k = ⟨0, false, []⟩ := rfl
theorem ofP_take {P : List Pc} {k : Key} {i : Nat} {p : Pc} (h : P[i]? = some p) : ofP (P.take (i + 1)) k = ofStep k (ofP (P.take i) k) p := by
  rw [List.take_add_one, h]; simp [ofP, List.foldl_append]
theorem ofP_le (P : List Pc) (k : Key) : (ofP P k).n ≤ P.length := by
  unfold ofP
  suffices h : ∀ (P : List Pc) (s : OfS), (P.foldl (ofStep k) s).n ≤ s.n + P.length by simpa using h P ⟨0, false, []⟩
  intro P
  induction P with
  | nil => intro s; simp
  | cons p r ih =>
    intro s
    rw [List.foldl_cons]
    have := ih (ofStep k s p)
    have h2 : (ofStep k s p).n ≤ s.n + 1 := by unfold ofStep; split <;> simp
    simp only [List.length_cons]; omega
theorem ofP_none {k : Key} (P : List Pc) (s : OfS) (h : ∀ p ∈ P, p.says k = false) : P.foldl (ofStep k) s = s := by
  induction P generalizing s with
  | nil => rfl
  | cons p r ih =>
    rw [List.foldl_cons, show ofStep k s p = s by unfold ofStep; rw [h p (List.mem_cons_self ..)]; simp]
    exact ih s fun q hq => h q (List.mem_cons_of_mem _ hq)
/-- Two pieces of a list say nothing of one key. -/
theorem pieces_one {P : List Pc} (hr : P.Pairwise fun p q => p.fin ≤ q.beg ∧ (p.put = false → q.put = false → p.fin ≠ q.beg)) {k : Key} {p : Pc} (hp : p ∈ P) (hs : p.says k = true) : ∃ A B, P = A ++ p :: B ∧ (∀ q ∈ A, q.says k = false) ∧ ∀ q ∈ B, q.says k = false := by
  obtain ⟨A, B, rfl⟩ := List.append_of_mem hp
  rw [List.pairwise_append, List.pairwise_cons] at hr
  rw [Pc.says_iff] at hs
  refine ⟨A, B, rfl, fun q hq => ?_, fun q hq => ?_⟩
  · have := (hr.2.2 q hq p (List.mem_cons_self ..)).1
    rw [← Bool.not_eq_true, Pc.says_iff]
    rintro ⟨_, h2⟩
    grind
  · have := (hr.2.1.1 q hq).1
    rw [← Bool.not_eq_true, Pc.says_iff]
    rintro ⟨h1, _⟩
    grind
/-- P7.2: pieces say of each key what the messages do, just once, and of no other. -/
theorem ofP_is {M : List Ms} {C : List Key} (hC : IsCuts M C) (k : Key) : ofP (piecesM M C) k = ⟨if (getM M k).isSome then 1 else 0, ((getM M k).getD none).isSome, ((getM M k).getD none).getD []⟩ := by
  have hI := pieces_inv hC C.length (Nat.le_refl _)
  have e : piecesN M C C.length = piecesM M C := rfl
  rw [e] at hI
  have hend : ∀ c, C[C.length]? = some c → k < c := fun c hc => by simp at hc
  cases hd : decM M k with
  | none =>
    have hg : getM M k = none := by unfold getM; rw [hd]; rfl
    have hn : ∀ p ∈ piecesM M C, p.says k = false := fun p hp => by
      rw [← Bool.not_eq_true]
      intro hs
      have := hI.is k p hp hs
      rw [hg] at this
      cases this
    rw [hg]
    unfold ofP
    rw [ofP_none _ _ hn]
    rfl
  | some m =>
    obtain ⟨p, hp, hs⟩ := hI.hit k hend m hd
    have hg := hI.is k p hp hs
    obtain ⟨A, B, e2, h1, h2⟩ := pieces_one hI.rise hp hs
    rw [hg, e2]
    unfold ofP
    rw [List.foldl_append, ofP_none A _ h1, List.foldl_cons, ofP_none B _ h2]
    unfold ofStep
    rw [hs]
    cases p.put <;> simp
/-- They rise, and no two that stand side by side could be one. -/
theorem pieces_wf {M : List Ms} {C : List Key} (hC : IsCuts M C) : ∀ p ∈ piecesM M C, p.Wf := (pieces_inv hC C.length (Nat.le_refl _)).wf
theorem pieces_next {M : List Ms} {C : List Key} (hC : IsCuts M C) {i : Nat} {p q : Pc} (hp : (piecesM M C)[i]? = some p) (hq : (piecesM M C)[i + 1]? = some q) : p.fin ≤ q.beg ∧ (p.put = false → q.put = false → p.fin ≠ q.beg) := by
  have h := (pieces_inv hC C.length (Nat.le_refl _)).rise
  obtain ⟨h1, rfl⟩ := List.getElem?_eq_some_iff.1 hp
  obtain ⟨h2, rfl⟩ := List.getElem?_eq_some_iff.1 hq
  exact List.pairwise_iff_getElem.1 h i (i + 1) h1 h2 (by omega)
end Go.Proofs.Ytkjjgbaoicjbaaa
