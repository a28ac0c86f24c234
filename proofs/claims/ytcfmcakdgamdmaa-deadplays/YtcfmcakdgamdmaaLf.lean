/- Lives as lists: their order, where one stands, which ones meet, what is put in, what is held and freed. -/
import Derived.Test.YtcfmcakdgamdmaaProg
namespace Go.Proofs.Ytcfmcakdgamdmaa

/-- A life. -/
structure Lf where
  p : Int
  b : Int
  d : Int
  deriving DecidableEq, Inhabited
/-- The order of lives. -/
def ltL (a x : Lf) : Prop := a.p < x.p ∨ (a.p = x.p ∧ a.b < x.b)
instance (a x : Lf) : Decidable (ltL a x) := by unfold ltL; infer_instance
def cmpI (a x : Int) : Int := if a < x then -1 else if x < a then 1 else 0
def cmpL (a x : Lf) : Int := if cmpI a.p x.p ≠ 0 then cmpI a.p x.p else cmpI a.b x.b
theorem cmpL_lt (a x : Lf) : cmpL a x < 0 ↔ ltL a x := by
  unfold cmpL ltL cmpI
  grind
/-- Do two lives meet? -/
def meets (a x : Lf) : Prop := a.p = x.p ∧ a.b < x.d ∧ x.b < a.d
instance (a x : Lf) : Decidable (meets a x) := by unfold meets; infer_instance
/-- May it be? -/
def spanL (x : Lf) : Prop := 2 ≤ x.p ∧ x.p < 65536 ∧ x.b < x.d
instance (x : Lf) : Decidable (spanL x) := by unfold spanL; infer_instance
/-- One life is over ahead of another one. -/
def ahead (a x : Lf) : Prop := a.p < x.p ∨ (a.p = x.p ∧ a.d ≤ x.b)
/-- A list as it must be. -/
structure OkL (L : List Lf) : Prop where
  span : ∀ x ∈ L, spanL x
  rise : L.Pairwise ahead
theorem OkL.nil : OkL [] := ⟨fun x hx => by simp at hx, List.Pairwise.nil⟩
theorem ahead_lt {a x : Lf} (ha : spanL a) (h : ahead a x) : ltL a x := by unfold spanL at ha; unfold ahead at h; unfold ltL; omega
theorem OkL.at {L : List Lf} (h : OkL L) {i j : Nat} {a x : Lf} (hij : i < j) (ha : L[i]? = some a) (hx : L[j]? = some x) : ahead a x := by
  obtain ⟨l1, rfl⟩ := List.getElem?_eq_some_iff.1 ha
  obtain ⟨l2, rfl⟩ := List.getElem?_eq_some_iff.1 hx
  exact List.pairwise_iff_getElem.1 h.rise i j l1 l2 hij
/-- Where a life stands, or would. -/
def atL (L : List Lf) (x : Lf) : Nat := (L.takeWhile fun a => decide (ltL a x)).length
/-- A place. -/
structure PlaceL (L : List Lf) (x : Lf) (p : Nat) : Prop where
  le : p ≤ L.length
  low : ∀ n a, n < p → L[n]? = some a → ltL a x
  high : ∀ n a, p ≤ n → L[n]? = some a → ¬ ltL a x
theorem PlaceL.uniq {L : List Lf} {x : Lf} {p q : Nat} (h : PlaceL L x p) (k : PlaceL L x q) : p = q := by
  rcases Nat.lt_trichotomy p q with hl | hl | hl
  · have hp : p < L.length := Nat.lt_of_lt_of_le hl k.le
    exact absurd (k.low p _ hl (List.getElem?_eq_getElem hp)) (h.high p _ (Nat.le_refl _) (List.getElem?_eq_getElem hp))
  · exact hl
  · have hp : q < L.length := Nat.lt_of_lt_of_le hl h.le
    exact absurd (h.low q _ hl (List.getElem?_eq_getElem hp)) (k.high q _ (Nat.le_refl _) (List.getElem?_eq_getElem hp))
theorem place_of {L : List Lf} (h : OkL L) (x : Lf) : PlaceL L x (atL L x) := by
  have low : ∀ (M : List Lf) n a, n < atL M x → M[n]? = some a → ltL a x := by
    intro M
    induction M with
    | nil => intro n a hn ha; simp at ha
    | cons y M ih =>
      intro n a hn ha
      unfold atL at hn ih
      by_cases hy : ltL y x
      · rw [List.takeWhile_cons_of_pos (by simpa using hy)] at hn
        rcases n with _ | n
        · simp at ha; subst ha; exact hy
        · exact ih n a (by simpa using hn) (by simpa using ha)
      · rw [List.takeWhile_cons_of_neg (by simpa using hy)] at hn
        simp at hn
  have here : ∀ (M : List Lf) a, M[atL M x]? = some a → ¬ ltL a x := by
    intro M
    induction M with
    | nil => intro a ha; simp at ha
    | cons y M ih =>
      intro a ha
      unfold atL at ha ih
      by_cases hy : ltL y x
      · rw [List.takeWhile_cons_of_pos (by simpa using hy)] at ha
        exact ih a (by simpa using ha)
      · rw [List.takeWhile_cons_of_neg (by simpa using hy)] at ha
        simp at ha; subst ha; exact hy
  have le : ∀ (M : List Lf), atL M x ≤ M.length := by
    intro M
    unfold atL
    exact (List.takeWhile_prefix _).length_le
  refine ⟨le L, low L, fun n a hn ha hlt => ?_⟩
  have hl : atL L x < L.length := Nat.lt_of_le_of_lt hn (List.getElem?_eq_some_iff.1 ha).1
  have h0 := here L _ (List.getElem?_eq_getElem hl)
  rcases Nat.lt_or_ge (atL L x) n with h1 | h1
  · have h2 := ahead_lt (h.span _ (List.getElem_mem hl)) (h.at h1 (List.getElem?_eq_getElem hl) ha)
    unfold ltL at h0 h2 hlt
    omega
  · obtain rfl : n = atL L x := by omega
    rw [List.getElem?_eq_getElem hl] at ha
    cases ha
    exact h0 hlt
/-- Put's answer; what is there then. -/
def putE (L : List Lf) (x : Lf) : Int := if ¬ spanL x then 101 else if ∃ a ∈ L, meets a x then 102 else 0
def insL (L : List Lf) (x : Lf) : List Lf := L.take (atL L x) ++ x :: L.drop (atL L x)
def putL (L : List Lf) (x : Lf) : List Lf := if putE L x = 0 then insL L x else L
theorem insL_length (L : List Lf) (x : Lf) : (insL L x).length = L.length + 1 := by
  unfold insL
  simp
  omega
theorem putL_length (L : List Lf) (x : Lf) : (putL L x).length ≤ L.length + 1 := by
  unfold putL
  split
  · rw [insL_length]; omega
  · omega
/-- What it meets stands beside its place. -/
theorem meets_beside {L : List Lf} (h : OkL L) {x : Lf} {p : Nat} (hp : PlaceL L x p) {a : Lf} (ha : a ∈ L) (hm : meets a x) : ∃ j y, (j + 1 = p ∨ j = p) ∧ L[j]? = some y ∧ meets y x := by
  obtain ⟨i, hi⟩ := List.getElem?_of_mem ha
  have hsa := h.span a ha
  rcases Nat.lt_or_ge i p with h1 | h1
  · by_cases e : i + 1 = p
    · exact ⟨i, a, .inl e, hi, hm⟩
    · have hl : p - 1 < L.length := by have := hp.le; omega
      have hy := List.getElem?_eq_getElem hl
      generalize hye : L[p - 1] = y at hy
      have h2 := h.at (show i < p - 1 by omega) hi hy
      have h3 := hp.low (p - 1) y (by omega) hy
      unfold ahead at h2
      unfold ltL at h3
      unfold meets at hm
      unfold spanL at hsa
      exfalso
      have hsy := h.span y (List.mem_of_getElem? hy)
      unfold spanL at hsy
      omega
  · by_cases e : i = p
    · exact ⟨i, a, .inr e, hi, hm⟩
    · have hl : p < L.length := by have := (List.getElem?_eq_some_iff.1 hi).1; omega
      have hy := List.getElem?_eq_getElem hl
      generalize hye : L[p] = y at hy
      have h2 := h.at (show p < i by omega) hy hi
      have h3 := hp.high p y (Nat.le_refl _) hy
      have hsy := h.span y (List.mem_of_getElem? hy)
      refine ⟨p, y, .inr rfl, hy, ?_⟩
      unfold ahead at h2
      unfold ltL at h3
      unfold meets at hm ⊢
      unfold spanL at hsy hsa
      omega
theorem OkL.ins {L : List Lf} (h : OkL L) {x : Lf} (hx : putE L x = 0) : OkL (insL L x) := by
  have hp := place_of h x
  unfold putE at hx
  split at hx
  · cases hx
  rename_i hs
  have hs : spanL x := by simpa using hs
  split at hx
  · cases hx
  rename_i hm
  have hm : ∀ a ∈ L, ¬ meets a x := fun a ha hma => hm ⟨a, ha, hma⟩
  clear hx
  have hL := h.rise
  rw [← List.take_append_drop (atL L x) L, List.pairwise_append] at hL
  obtain ⟨h1, h2, h3⟩ := hL
  refine ⟨fun y hy => ?_, ?_⟩
  · unfold insL at hy
    rw [List.mem_append, List.mem_cons] at hy
    rcases hy with hy | rfl | hy
    · exact h.span y (List.mem_of_mem_take hy)
    · exact hs
    · exact h.span y (List.mem_of_mem_drop hy)
  · unfold insL
    rw [List.pairwise_append]
    refine ⟨h1, List.pairwise_cons.2 ⟨fun y hy => ?_, h2⟩, fun a ha y hy => ?_⟩
    · obtain ⟨i, hi⟩ := List.getElem?_of_mem hy
      rw [List.getElem?_drop] at hi
      have h4 := hp.high _ _ (Nat.le_add_right _ _) hi
      have h5 := hm y (List.mem_of_getElem? hi)
      have h6 := h.span y (List.mem_of_getElem? hi)
      unfold ltL at h4
      unfold meets at h5
      unfold spanL at h6 hs
      unfold ahead
      omega
    · rw [List.mem_cons] at hy
      rcases hy with rfl | hy
      · obtain ⟨i, hi⟩ := List.getElem?_of_mem ha
        rw [List.getElem?_take] at hi
        split at hi
        · rename_i hlt
          have h4 := hp.low _ _ hlt hi
          have h5 := hm a (List.mem_of_getElem? hi)
          have h6 := h.span a (List.mem_of_getElem? hi)
          unfold ltL at h4
          unfold meets at h5
          unfold spanL at h6 hs
          unfold ahead
          omega
        · cases hi
      · exact h3 a ha y hy
theorem OkL.put {L : List Lf} (h : OkL L) (x : Lf) : OkL (putL L x) := by
  unfold putL
  split
  · rename_i e; exact h.ins e
  · exact h
theorem OkL.filter {L : List Lf} (h : OkL L) (f : Lf → Bool) : OkL (L.filter f) :=
  ⟨fun x hx => h.span x (List.mem_filter.1 hx).1, h.rise.sublist List.filter_sublist⟩
/-- Does a snapshot need it? -/
def needsL (g : Int) (x : Lf) : Bool := decide (x.b ≤ g) && decide (g < x.d)
def anyL (S : List Int) (x : Lf) : Bool := S.any fun g => needsL g x
def heldL (L : List Lf) (g : Int) : List Int := (L.filter (needsL g)).map Lf.p
/-- Each number once, of numbers that do not fall. -/
def onceF (last : Option Int) : List Int → List Int
  | [] => []
  | n :: r => if last = some n then onceF last r else n :: onceF (some n) r
def onceL (l : List Int) : List Int := onceF none l
def goneL (L : List Lf) (S : List Int) : List Int := onceL ((L.filter fun x => !anyL S x).map Lf.p)
def leftL (L : List Lf) (S : List Int) : List Lf := L.filter (anyL S)
end Go.Proofs.Ytcfmcakdgamdmaa
