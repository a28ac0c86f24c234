/- Places that are open or shut; what one message more decides. -/
import Derived.Test.YtkjjgbaoicjbaabMsg
namespace Go.Proofs.Ytkjjgbaoicjbaab

/-- Places: each open one leads to itself, a shut one to a greater one, those between are shut. -/
structure Pl (n : Nat) (sh : Nat → Prop) (P : List Nat) : Prop where
  len : P.length = n + 1
  last : ¬ sh n
  op : ∀ a, a ≤ n → ¬ sh a → P[a]? = some a
  shut : ∀ a q, a ≤ n → sh a → P[a]? = some q → a < q ∧ q ≤ n ∧ ∀ b, a ≤ b → b < q → sh b
theorem Pl.get {n : Nat} {sh : Nat → Prop} {P : List Nat} (h : Pl n sh P) (a : Nat) (ha : a ≤ n) : ∃ q, P[a]? = some q ∧ a ≤ q ∧ q ≤ n ∧ (q = a ↔ ¬ sh a) := by
  obtain ⟨q, hq⟩ : ∃ q, P[a]? = some q := ⟨_, List.getElem?_eq_getElem (by rw [h.len]; omega)⟩
  refine ⟨q, hq, ?_⟩
  by_cases hs : sh a
  · obtain ⟨h1, h2, h3⟩ := h.shut a q ha hs hq
    exact ⟨by omega, h2, ⟨fun e => by omega, fun e => absurd hs e⟩⟩
  · have := h.op a ha hs
    rw [hq] at this
    cases this
    exact ⟨Nat.le_refl _, ha, ⟨fun _ => hs, fun _ => rfl⟩⟩
theorem Pl.short {n : Nat} {sh : Nat → Prop} {P : List Nat} (h : Pl n sh P) {a q r : Nat} (ha : a ≤ n) (hq : P[a]? = some q) (hne : q ≠ a) (hr : P[q]? = some r) : Pl n sh (P.set a r) ∧ a < r ∧ r ≤ n ∧ ∀ b, a ≤ b → b < r → sh b := by
  obtain ⟨q', e1, _, h1, h2⟩ := h.get a ha
  rw [hq] at e1; cases e1
  have hs : sh a := Classical.byContradiction fun hn => hne (h2.2 hn)
  obtain ⟨h3, h4, h5⟩ := h.shut a q ha hs hq
  have key : q ≤ r ∧ r ≤ n ∧ ∀ b, a ≤ b → b < r → sh b := by
    by_cases hsq : sh q
    · obtain ⟨k1, k2, k3⟩ := h.shut q r h4 hsq hr
      exact ⟨by omega, k2, fun b hb1 hb2 => (Nat.lt_or_ge b q).elim (h5 b hb1) (fun h => k3 b h hb2)⟩
    · have := h.op q h4 hsq
      rw [hr] at this; cases this
      exact ⟨Nat.le_refl _, h4, h5⟩
  obtain ⟨k1, k2, k3⟩ := key
  refine ⟨⟨by rw [List.length_set, h.len], h.last, fun b hb hn => ?_, fun b x hb hsb hx => ?_⟩, by omega, k2, k3⟩
  · rw [List.getElem?_set_ne (by rintro rfl; exact hn hs)]
    exact h.op b hb hn
  · by_cases e : a = b
    · subst e
      rw [List.getElem?_set_self (by rw [h.len]; omega)] at hx
      cases hx
      exact ⟨by omega, k2, k3⟩
    · rw [List.getElem?_set_ne e] at hx
      exact h.shut b x hb hsb hx
theorem Pl.close {n : Nat} {sh sh' : Nat → Prop} {P : List Nat} (h : Pl n sh P) {a : Nat} (ha : a < n) (hs : ∀ b, sh' b ↔ sh b ∨ b = a) : Pl n sh' (P.set a (a + 1)) := by
  refine ⟨by rw [List.length_set, h.len], fun e => ?_, fun b hb hn => ?_, fun b x hb hsb hx => ?_⟩
  · rcases (hs n).1 e with h1 | h1
    · exact h.last h1
    · omega
  · have h1 : ¬ sh b ∧ b ≠ a := by rw [hs] at hn; exact not_or.1 hn
    rw [List.getElem?_set_ne (fun e => h1.2 e.symm)]
    exact h.op b hb h1.1
  · by_cases e : a = b
    · subst e
      rw [List.getElem?_set_self (by rw [h.len]; omega)] at hx
      cases hx
      exact ⟨by omega, by omega, fun c h1 h2 => (hs c).2 (.inr (by omega))⟩
    · rw [List.getElem?_set_ne e] at hx
      rcases (hs b).1 hsb with h1 | h1
      · obtain ⟨k1, k2, k3⟩ := h.shut b x hb h1 hx
        exact ⟨k1, k2, fun c h1 h2 => (hs c).2 (.inl (k3 c h1 h2))⟩
      · exact absurd h1.symm e
theorem Pl.start (n : Nat) : Pl n (fun _ => False) (List.range (n + 1)) :=
  ⟨by simp, fun h => h, fun a ha _ => by rw [List.getElem?_range (by omega)], fun a q _ h => h.elim⟩

/-- What is decided by one message more. -/
def fillL (S : List Int) (f t : Nat) (i : Int) : List Int := S.mapIdx fun b x => if f ≤ b ∧ b < t ∧ x < 0 then i else x
theorem fillL_length (S : List Int) (f t : Nat) (i : Int) : (fillL S f t i).length = S.length := by simp [fillL]
theorem fillL_get (S : List Int) (f t : Nat) (i : Int) (b : Nat) : (fillL S f t i)[b]? = S[b]?.map fun x => if f ≤ b ∧ b < t ∧ x < 0 then i else x := by
  unfold fillL; rw [List.getElem?_mapIdx]
theorem fillL_none (S : List Int) (f t : Nat) (i : Int) (h : ∀ b x, f ≤ b → b < t → S[b]? = some x → 0 ≤ x) : fillL S f t i = S := by
  apply List.ext_getElem?
  intro b
  rw [fillL_get]
  cases hb : S[b]? with
  | none => rfl
  | some x =>
    simp only [Option.map_some, Option.some.injEq]
    rw [if_neg]
    rintro ⟨h1, h2, h3⟩
    have := h b x h1 h2 hb
    omega
theorem fillL_step (S : List Int) (f a t : Nat) (i : Int) (h1 : f ≤ a) (h2 : a < t) {x : Int} (hx : S[a]? = some x) (hx0 : x < 0) (h : ∀ b y, a < b → b < t → S[b]? = some y → 0 ≤ y) : fillL S f t i = (fillL S f a i).set a i := by
  apply List.ext_getElem?
  intro b
  have ha := (List.getElem?_eq_some_iff.1 hx).1
  by_cases e : a = b
  · subst e
    rw [List.getElem?_set_self (by rw [fillL_length]; exact ha), fillL_get, hx]
    simp only [Option.map_some, Option.some.injEq]
    rw [if_pos ⟨h1, h2, hx0⟩]
  · rw [List.getElem?_set_ne e, fillL_get, fillL_get]
    cases hb : S[b]? with
    | none => rfl
    | some y =>
      simp only [Option.map_some, Option.some.injEq]
      by_cases h3 : b < a
      · by_cases h4 : f ≤ b ∧ y < 0
        · rw [if_pos ⟨h4.1, by omega, h4.2⟩, if_pos ⟨h4.1, h3, h4.2⟩]
        · rw [if_neg (fun h => h4 ⟨h.1, h.2.2⟩), if_neg (fun h => h4 ⟨h.1, h.2.2⟩)]
      · rw [if_neg (fun k => by have := h b y (by omega) k.2.1 hb; omega), if_neg (fun k => by omega)]
theorem fillL_last {M : List Ms} {C : List Key} {i f t : Nat} {m : Ms} (hm : M[i]? = some m) (hf : ∀ b k, C[b]? = some k → (m.says k = true ↔ f ≤ b ∧ b < t)) : fillL (C.map (lastD M (i + 1))) f t i = C.map (lastD M i) := by
  apply List.ext_getElem?
  intro b
  rw [fillL_get, List.getElem?_map, List.getElem?_map]
  cases hb : C[b]? with
  | none => rfl
  | some k =>
    simp only [Option.map_some, Option.some.injEq]
    rw [lastD_step M k i m hm]
    have h1 := hf b k hb
    have h2 : lastD M (i + 1) k < 0 → lastD M (i + 1) k = -1 := by
      intro h
      unfold lastD at h ⊢
      split at h
      · omega
      · rename_i h3; rw [if_neg h3]
    by_cases h0 : 0 ≤ lastD M (i + 1) k
    · rw [if_neg (by omega), if_pos h0]
    · rw [if_neg h0]
      by_cases h3 : m.says k = true
      · rw [if_pos h3, if_pos ⟨(h1.1 h3).1, (h1.1 h3).2, by omega⟩]
      · rw [if_neg h3, if_neg (fun h => h3 (h1.2 ⟨h.1, h.2.1⟩)), h2 (by omega)]
/-- Where a key stands among keys that rise. -/
structure Place (C : List Key) (k : Key) (p : Nat) : Prop where
  le : p ≤ C.length
  lt : ∀ i e, i < p → C[i]? = some e → e < k
  ge : ∀ i e, p ≤ i → C[i]? = some e → ¬ e < k
theorem Place.says {C : List Key} {m : Ms} {f t : Nat} (hf : Place C m.rg.lo f) (ht : Place C m.rg.hi t) (b : Nat) (k : Key) (hb : C[b]? = some k) : m.says k = true ↔ f ≤ b ∧ b < t := by
  unfold Ms.says Rg.has
  rw [m.rg_all]
  simp only [Bool.false_or, Bool.and_eq_true, decide_eq_true_eq]
  constructor
  · rintro ⟨h1, h2⟩
    refine ⟨?_, ?_⟩
    · rcases Nat.lt_or_ge b f with h | h
      · have := hf.lt b k h hb; grind
      · exact h
    · rcases Nat.lt_or_ge b t with h | h
      · exact h
      · exact absurd h2 (ht.ge b k h hb)
  · rintro ⟨h1, h2⟩
    have h3 := hf.ge b k h1 hb
    exact ⟨by grind, ht.lt b k h2 hb⟩
theorem last_start (M : List Ms) (C : List Key) : List.replicate C.length (-1 : Int) = C.map (lastD M M.length) := by
  apply List.ext_getElem?
  intro b
  rw [List.getElem?_replicate, List.getElem?_map]
  split
  · rename_i h
    rw [List.getElem?_eq_getElem h, Option.map_some, lastD_end _ _ _ (Nat.le_refl _)]
  · rw [List.getElem?_eq_none (by omega)]; rfl
theorem last_end (M : List Ms) (C : List Key) : C.map (lastD M 0) = C.map (lastM M) := by
  congr 1; funext k; exact lastD_zero M k
/-- The ends of what messages say. -/
def endsM (M : List Ms) : List Key := M.flatMap fun m => if m.rg.empty then [] else [m.rg.lo, m.rg.hi]
theorem endsM_mem (M : List Ms) (k : Key) : k ∈ endsM M ↔ ∃ m ∈ M, m.rg.empty = false ∧ (k = m.rg.lo ∨ k = m.rg.hi) := by
  unfold endsM
  rw [List.mem_flatMap]
  constructor
  · rintro ⟨m, hm, h⟩
    split at h
    · simp at h
    · rename_i he; exact ⟨m, hm, by simpa using he, by simpa using h⟩
  · rintro ⟨m, hm, he, h⟩
    exact ⟨m, hm, by rw [if_neg (by simp [he])]; simpa using h⟩
/-- Keys of which neighbours that are one are left out. -/
def compK : List Key → List Key
  | [] => []
  | [a] => [a]
  | a :: b :: r => if b = a then compK (a :: r) else a :: compK (b :: r)
termination_by l => l.length
theorem isCuts_of {M : List Ms} {C : List Key} (hr : C.Pairwise (· < ·)) (hm : ∀ k, k ∈ C ↔ k ∈ endsM M) : IsCuts M C := ⟨hr, fun k => by rw [hm, endsM_mem]⟩
end Go.Proofs.Ytkjjgbaoicjbaab
