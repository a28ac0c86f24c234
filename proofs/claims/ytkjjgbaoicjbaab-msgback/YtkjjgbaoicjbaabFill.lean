/- The loops of decided, on lists. -/
import Derived.Test.YtkjjgbaoicjbaabSaid
namespace Go.Proofs.Ytkjjgbaoicjbaab
open Go.RowKit

def shutL (S : List Int) (b : Nat) : Prop := ∃ x, S[b]? = some x ∧ 0 ≤ x
/-- How far the inner loop has come. -/
structure Filled (S S' : List Int) (f t : Nat) (i : Int) (at' : Nat) (P' : List Nat) : Prop where
  le : f ≤ at'
  len : at' ≤ S.length
  is : S' = fillL S f (min at' t) i
  op : ¬ shutL S' at'
  all : ∀ b, f ≤ b → b < at' → shutL S' b
  pl : Pl S.length (shutL S') P'
theorem Filled.start {S : List Int} {f t : Nat} {i : Int} {a : Nat} {P : List Nat} (h1 : f ≤ a) (h2 : a ≤ S.length) (h3 : ¬ shutL S a) (h4 : ∀ c, f ≤ c → c < a → shutL S c) (h5 : Pl S.length (shutL S) P) : Filled S S f t i a P := by
  refine ⟨h1, h2, ?_, h3, h4, h5⟩
  rw [fillL_none]
  intro b x hb1 hb2 hx
  obtain ⟨y, hy, h0⟩ := h4 b hb1 (by omega)
  rw [hx] at hy; cases hy; exact h0
theorem Filled.length {S S' : List Int} {f t : Nat} {i : Int} {a : Nat} {P : List Nat} (h : Filled S S' f t i a P) : S'.length = S.length := by rw [h.is, fillL_length]
/-- One place more is decided. -/
theorem Filled.shut {S S' : List Int} {f t i a : Nat} {P : List Nat} (h : Filled S S' f t (i : Int) a P) (hat : a < t) (ht : t ≤ S.length) : Pl S.length (shutL (S'.set a (i : Int))) (P.set a (a + 1)) := by
  refine h.pl.close (by omega) fun b => ?_
  have hl := h.length
  constructor
  · rintro ⟨x, hx, h0⟩
    by_cases e : a = b
    · exact .inr e.symm
    · rw [List.getElem?_set_ne e] at hx; exact .inl ⟨x, hx, h0⟩
  · rintro (⟨x, hx, h0⟩ | rfl)
    · by_cases e : a = b
      · subst e; exact ⟨i, by rw [List.getElem?_set_self (by omega)], by omega⟩
      · exact ⟨x, by rw [List.getElem?_set_ne e]; exact hx, h0⟩
    · exact ⟨i, by rw [List.getElem?_set_self (by omega)], by omega⟩
theorem Filled.step {S S' : List Int} {f t i a a2 : Nat} {P P2 : List Nat} (h : Filled S S' f t (i : Int) a P) (hat : a < t) (ht : t ≤ S.length) (h1 : a ≤ a2) (h2 : a2 ≤ S.length) (h3 : ¬ shutL (S'.set a (i : Int)) a2) (h4 : ∀ c, a ≤ c → c < a2 → shutL (S'.set a (i : Int)) c) (h5 : Pl S.length (shutL (S'.set a (i : Int))) P2) :
    a < a2 ∧ Filled S (S'.set a (i : Int)) f t (i : Int) a2 P2 := by
  have hl := h.length
  have hma : min a t = a := by omega
  have hi := h.is
  rw [hma] at hi
  have hne : a2 ≠ a := by
    rintro rfl
    exact h3 ⟨i, by rw [List.getElem?_set_self (by omega)], by omega⟩
  have hlt : a < a2 := by omega
  have same : ∀ b, a ≤ b → S'[b]? = S[b]? := fun b hb => by
    rw [hi, fillL_get]
    cases hx : S[b]? with
    | none => rfl
    | some x => simp only [Option.map_some, Option.some.injEq]; rw [if_neg (by omega)]
  obtain ⟨x, hx⟩ : ∃ x, S[a]? = some x := ⟨_, List.getElem?_eq_getElem (by omega)⟩
  have hx0 : x < 0 := by
    rcases Int.lt_or_le x 0 with h0 | h0
    · exact h0
    · exact absurd ⟨x, by rw [same a (Nat.le_refl _)]; exact hx, h0⟩ h.op
  refine ⟨hlt, ⟨by have := h.le; omega, h2, ?_, h3, fun b hb1 hb2 => ?_, h5⟩⟩
  · rw [fillL_step S f a (min a2 t) i h.le (by omega) hx hx0 ?_, ← hi]
    intro b y hb1 hb2 hy
    obtain ⟨z, hz, h0⟩ := h4 b (by omega) (by omega)
    rw [List.getElem?_set_ne (by omega), same b (by omega), hy] at hz
    cases hz; exact h0
  · rcases Nat.lt_or_ge b a with hb | hb
    · obtain ⟨y, hy, h0⟩ := h.all b hb1 hb
      exact ⟨y, by rw [List.getElem?_set_ne (by omega)]; exact hy, h0⟩
    · exact h4 b hb hb2
theorem Filled.end {M : List Ms} {C : List Key} {S' : List Int} {f t i a : Nat} {m : Ms} {P : List Nat} (h : Filled (C.map (lastD M (i + 1))) S' f t (i : Int) a P) (hat : t ≤ a) (hm : M[i]? = some m) (hf : Place C m.rg.lo f) (ht : Place C m.rg.hi t) : S' = C.map (lastD M i) := by
  rw [h.is, show min a t = t by omega]
  exact fillL_last hm (Place.says hf ht)
theorem Pl.congr {n : Nat} {sh sh' : Nat → Prop} {P : List Nat} (h : Pl n sh P) (e : ∀ b, sh' b ↔ sh b) : Pl n sh' P :=
  ⟨h.len, fun hn => h.last ((e n).1 hn), fun a ha hn => h.op a ha fun hs => hn ((e a).2 hs), fun a q ha hs hq => by
    obtain ⟨h1, h2, h3⟩ := h.shut a q ha ((e a).1 hs) hq
    exact ⟨h1, h2, fun b hb1 hb2 => (e b).2 (h3 b hb1 hb2)⟩⟩
theorem open_start (M : List Ms) (C : List Key) : Pl C.length (shutL (C.map (lastD M M.length))) (List.range (C.length + 1)) := by
  refine (Pl.start C.length).congr fun b => ⟨fun ⟨x, hx, h0⟩ => ?_, fun h => h.elim⟩
  rw [← last_start, List.getElem?_replicate] at hx
  split at hx
  · cases hx; omega
  · cases hx
/-- What stays while places are decided. -/
structure Stat (w wx : World) (M : List Ms) (D : List Kc) (cv : Value) (gs : Nat) (Q : List (Value × Value)) : Prop where
  row : RowR wx gs Q
  keys : ∀ (i : Nat) (q : Value × Value) (m : Ms), Q[i]? = some q → M[i]? = some m → KeyK w.heap.size wx q.1 m.rg.lo ∧ KeyK w.heap.size wx q.2 m.rg.hi
  cuts : KeysV w.heap.size wx cv D
  ok : ∀ e ∈ D, KeyK w.heap.size wx e.v e.k
  low : Below w.heap.size w wx
theorem Stat.keep {w wx wy : World} {M : List Ms} {D : List Kc} {cv : Value} {gs : Nat} {Q : List (Value × Value)} (h : Stat w wx M D cv gs Q) {T : Nat} (hk : Keep T w.heap.size wx wy) (h1 : 25 ≠ T) (h2 : 23 ≠ T) (h3 : 5 ≠ T) : Stat w wy M D cv gs Q :=
  ⟨h.row.keep hk h1, fun i q m hq hm => ⟨(h.keys i q m hq hm).1.keep hk h3, (h.keys i q m hq hm).2.keep hk h3⟩, h.cuts.keep hk h2, fun e he => (h.ok e he).keep hk h3, h.low.trans hk.low⟩
theorem but_keep {base g : Nat} {w w' : World} {xs : List Int} (hr : RowI w g xs) (hb : But g w w') (hB : base ≤ g) : Keep 3 base w w' :=
  ⟨hb.below hB, fun k cur t z ht hk => by
    rw [hb.rest k ?_]
    · exact hk
    · rintro rfl
      rw [hr.row] at hk
      simp only [Option.some.injEq, Obj.cells.injEq] at hk
      exact ht hk.2.1.symm⟩
end Go.Proofs.Ytkjjgbaoicjbaab
