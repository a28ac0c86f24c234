/- Rows of ranges in memory. -/
import Derived.Test.YtaehchijeinloabKids
import Derived.Test.YtaehchijeinloabMeet
import Derived.Lib.SliceRun
namespace Go.Proofs.Ytaehchijeinloab
open Go.RowKit

/-- A range in a row: its two keys' values, and what it is. -/
structure It where
  v1 : Value
  v2 : Value
  r : Rg
  deriving Inhabited
def It.cells (e : It) : List Value := [e.v1, e.v2, .bool e.r.all]
def It.val (e : It) : Value := .agg #[e.v1, e.v2, .bool e.r.all]
structure It.Ok (B : Nat) (w : World) (e : It) : Prop where
  lo : KeyIn B w e.v1 e.r.lo
  hi : KeyIn B w e.v2 e.r.hi
theorem It.Ok.range {B : Nat} {w : World} {e : It} (h : e.Ok B w) : RangeIn B w e.val e.r := ⟨_, _, rfl, h.lo, h.hi⟩
theorem It.Ok.below {B : Nat} {w w' : World} {e : It} (h : e.Ok B w) (hb : Below B w w') : e.Ok B w' := ⟨h.lo.below hb, h.hi.below hb⟩
theorem RangeIn.it {B : Nat} {w : World} {v : Value} {r : Rg} (h : RangeIn B w v r) : ∃ e : It, e.val = v ∧ e.r = r ∧ e.Ok B w := by
  obtain ⟨v1, v2, rfl, h1, h2⟩ := h.is
  exact ⟨⟨v1, v2, r⟩, rfl, rfl, h1, h2⟩
def flat (L : List It) : List Value := L.flatMap It.cells
theorem flat_cons (e : It) (L : List It) : flat (e :: L) = e.v1 :: e.v2 :: .bool e.r.all :: flat L := rfl
theorem flat_append (L M : List It) : flat (L ++ M) = flat L ++ flat M := List.flatMap_append
theorem flat_length (L : List It) : (flat L).length = L.length * 3 := by
  induction L with
  | nil => rfl
  | cons e L ih => rw [flat_cons]; simp [ih]; omega
theorem flat_get (L : List It) (i : Nat) (e : It) (h : L[i]? = some e) : (flat L)[i * 3]? = some e.v1 ∧ (flat L)[i * 3 + 1]? = some e.v2 ∧ (flat L)[i * 3 + 2]? = some (.bool e.r.all) := by
  induction L generalizing i with
  | nil => simp at h
  | cons x L ih =>
    rw [flat_cons]
    cases i with
    | zero => simp at h; subst h; exact ⟨rfl, rfl, rfl⟩
    | succ i =>
      have := ih i (by simpa using h)
      rw [show (i + 1) * 3 = i * 3 + 1 + 1 + 1 by omega, show i * 3 + 1 + 1 + 1 + 1 = i * 3 + 1 + 1 + 1 + 1 from rfl, show i * 3 + 1 + 1 + 1 + 2 = i * 3 + 2 + 1 + 1 + 1 by omega]
      simp only [List.getElem?_cons_succ]
      exact this
theorem flat_take (L : List It) (i : Nat) : (flat L).take (i * 3) = flat (L.take i) := by
  induction L generalizing i with
  | nil => simp [flat]
  | cons e L ih =>
    cases i with
    | zero => simp [flat]
    | succ i =>
      rw [List.take_succ_cons, flat_cons, flat_cons, show (i + 1) * 3 = i * 3 + 1 + 1 + 1 by omega]
      simp [ih]
theorem flat_set (L : List It) (i : Nat) (e : It) (h : i < L.length) : flat (L.set i e) = (((flat L).set (i * 3) e.v1).set (i * 3 + 1) e.v2).set (i * 3 + 2) (.bool e.r.all) := by
  induction L generalizing i with
  | nil => simp at h
  | cons x L ih =>
    cases i with
    | zero => rfl
    | succ i =>
      rw [List.set_cons_succ, flat_cons, ih i (by simpa using h), flat_cons, show (i + 1) * 3 = i * 3 + 1 + 1 + 1 by omega]
      rw [show i * 3 + 1 + 1 + 1 + 1 = (i * 3 + 1) + 1 + 1 + 1 from rfl, show i * 3 + 1 + 1 + 1 + 2 = (i * 3 + 2) + 1 + 1 + 1 by omega]
      simp only [List.set_cons_succ]
theorem flat_one {B : Nat} {w : World} {L : List It} (h : ∀ e ∈ L, e.Ok B w) : ∀ u ∈ flat L, u.oneCell' = true := fun u hu => by
  obtain ⟨e, he, hu⟩ := List.mem_flatMap.1 hu
  obtain ⟨h1, h2⟩ := h e he
  obtain ⟨a, c, e1⟩ := h1.form
  obtain ⟨a', c', e2⟩ := h2.form
  simp only [It.cells, List.mem_cons, List.not_mem_nil, or_false] at hu
  rcases hu with rfl | rfl | rfl
  · rw [e1]; rfl
  · rw [e2]; rfl
  · rfl

/-- A block whose first cells are these ranges. -/
structure RowAt (w : World) (g S : Nat) (D : List It) : Prop where
  is : ∃ cur : Array Value, w.heap[g]? = some (.cells cur 28 (0, 0)) ∧ cur.size = S ∧ cur.toList.take (D.length * 3) = flat D
theorem RowAt.lt {w : World} {g S : Nat} {D : List It} (h : RowAt w g S D) : g < w.heap.size := by
  obtain ⟨cur, h1, _⟩ := h.is; exact (Array.getElem?_eq_some_iff.1 h1).1
theorem RowAt.fits {w : World} {g S : Nat} {D : List It} (h : RowAt w g S D) : D.length * 3 ≤ S := by
  obtain ⟨cur, _, h2, h3⟩ := h.is
  have := congrArg List.length h3
  rw [List.length_take, flat_length] at this
  simp at this
  omega
theorem RowAt.here {w w' : World} {g S : Nat} {D : List It} (h : RowAt w g S D) (hb : Below w.heap.size w w') : RowAt w' g S D := by
  have hl := h.lt
  obtain ⟨cur, h1, h2⟩ := h.is
  exact ⟨cur, by rw [hb.block g hl]; exact h1, h2⟩
theorem RowAt.block {w w' : World} {g S : Nat} {D : List It} (h : RowAt w g S D) (hb : w'.heap[g]? = w.heap[g]?) : RowAt w' g S D := by
  obtain ⟨cur, h1, h2⟩ := h.is
  exact ⟨cur, by rw [hb]; exact h1, h2⟩
theorem RowAt.cells {w : World} {g S : Nat} {D : List It} (h : RowAt w g S D) (i : Nat) (e : It) (hi : D[i]? = some e) : w.cell? ⟨g, i * 3, none⟩ = some e.v1 ∧ w.cell? ⟨g, i * 3 + 1, none⟩ = some e.v2 ∧ w.cell? ⟨g, i * 3 + 2, none⟩ = some (.bool e.r.all) := by
  obtain ⟨cur, h1, h2, h3⟩ := h.is
  have hl := (List.getElem?_eq_some_iff.1 hi).1
  obtain ⟨a, b, c⟩ := flat_get D i e hi
  have key : ∀ j, j < D.length * 3 → cur[j]? = (flat D)[j]? := fun j hj => by
    rw [← h3, List.getElem?_take, if_pos hj, Array.getElem?_toList]
  rw [row_cell h1, row_cell h1, row_cell h1, key _ (by omega), key _ (by omega), key _ (by omega)]
  exact ⟨a, b, c⟩
theorem RowAt.open {w : World} {g S : Nat} {D : List It} (h : RowAt w g S D) (j : Nat) : w.frozen? ⟨g, j, none⟩ = false := by
  obtain ⟨cur, h1, _⟩ := h.is; exact row_frozen h1 j
theorem RowAt.take {w : World} {g S : Nat} {D : List It} (h : RowAt w g S D) (i : Nat) : RowAt w g S (D.take i) := by
  have hf := h.fits
  obtain ⟨cur, h1, h2, h3⟩ := h.is
  refine ⟨cur, h1, h2, ?_⟩
  rw [← flat_take, ← h3, List.take_take]
  congr 1
  rw [List.length_take]
  omega
def putAt (w : World) (g i : Nat) (e : It) : World := ((w.setCell ⟨g, i * 3, none⟩ e.v1).setCell ⟨g, i * 3 + 1, none⟩ e.v2).setCell ⟨g, i * 3 + 2, none⟩ (.bool e.r.all)
theorem RowAt.put {w : World} {g S : Nat} {D : List It} (h : RowAt w g S D) (i : Nat) (e : It) (hi : i < D.length) : RowAt (putAt w g i e) g S (D.set i e) := by
  have hf := h.fits
  obtain ⟨cur, h1, h2, h3⟩ := h.is
  refine ⟨_, heap_set_same _ (heap_set_same _ (heap_set_same _ h1)), by simpa using h2, ?_⟩
  rw [List.length_set, flat_set D i e hi, ← h3]
  simp [List.take_set]
theorem putAt_other {w : World} {g k i : Nat} {e : It} (hk : k ≠ g) : (putAt w g i e).heap[k]? = w.heap[k]? := by
  unfold putAt; rw [heap_set_other _ hk, heap_set_other _ hk, heap_set_other _ hk]
theorem putAt_size (w : World) (g i : Nat) (e : It) : (putAt w g i e).heap.size = w.heap.size := by simp [putAt]
theorem putAt_below {B g i : Nat} {a w : World} {e : It} (h : Below B a w) (hb : B ≤ g) : Below B a (putAt w g i e) := ((h.setCell hb _).setCell hb _).setCell hb _
theorem RowAt.own {w : World} {base g c : Nat} {D : List It} (h : RowAt w g (c * 3) D) (hb : base ≤ g) (hc : c ≤ maxLen) : w.ownsRow base 28 3 (.slice (some ⟨g, 0, none⟩) D.length c) D.length (flat D) := by
  have hf := h.fits
  obtain ⟨cur, h1, h2, h3⟩ := h.is
  exact ⟨by rw [flat_length], .inr ⟨g, c, cur, rfl, hb, h1, by omega, hc, h2, h3⟩⟩
theorem own_row {w : World} {base : Nat} {v : Value} {D : List It} (h : w.ownsRow base 28 3 v D.length (flat D)) : (v = .slice none 0 0 ∧ D = []) ∨ ∃ g c, v = .slice (some ⟨g, 0, none⟩) D.length c ∧ base ≤ g ∧ D.length ≤ c ∧ c ≤ maxLen ∧ RowAt w g (c * 3) D := by
  obtain ⟨_, h2⟩ := h
  rcases h2 with ⟨e, h0⟩ | ⟨g, c, cur, e, hb, hg, hc, hm, hs, ht⟩
  · exact .inl ⟨e, List.eq_nil_of_length_eq_zero h0⟩
  · exact .inr ⟨g, c, e, hb, hc, hm, cur, hg, hs, ht⟩

/-- A list of ranges that came in. -/
structure ListAt (B : Nat) (w : World) (v : Value) (L : List It) : Prop where
  is : ∃ a c, v = .slice a L.length c ∧ L.length ≤ c ∧ (a = none → c = 0) ∧ ∀ j u, (flat L)[j]? = some u → ∃ g off, a = some ⟨g, off, none⟩ ∧ g < B ∧ w.cell? ⟨g, off + j, none⟩ = some u
  short : L.length * 56 ≤ 140737488355328
  ok : ∀ e ∈ L, e.Ok B w
theorem ListAt.below {B : Nat} {w w' : World} {v : Value} {L : List It} (h : ListAt B w v L) (hb : Below B w w') : ListAt B w' v L := by
  obtain ⟨⟨a, c, h1, h2, h3, h4⟩, h5, h6⟩ := h
  refine ⟨⟨a, c, h1, h2, h3, fun j u hj => ?_⟩, h5, fun e he => (h6 e he).below hb⟩
  obtain ⟨g, off, e1, e2, e3⟩ := h4 j u hj
  exact ⟨g, off, e1, e2, by rw [hb.cell e2]; exact e3⟩
theorem It.Ok.mono {B B' : Nat} {w : World} {e : It} (h : e.Ok B w) (hB : B ≤ B') : e.Ok B' w := ⟨h.lo.mono hB, h.hi.mono hB⟩
theorem ListAt.mono {B B' : Nat} {w : World} {v : Value} {L : List It} (h : ListAt B w v L) (hB : B ≤ B') : ListAt B' w v L := by
  obtain ⟨⟨a, c, h1, h2, h3, h4⟩, h5, h6⟩ := h
  refine ⟨⟨a, c, h1, h2, h3, fun j u hj => ?_⟩, h5, fun e he => (h6 e he).mono hB⟩
  obtain ⟨g, off, e1, e2, e3⟩ := h4 j u hj
  exact ⟨g, off, e1, by omega, e3⟩
theorem ListAt.here {w w' : World} {v : Value} {L : List It} (h : ListAt w.heap.size w v L) (hb : Below w.heap.size w w') : ListAt w'.heap.size w' v L := (h.below hb).mono hb.size

/-- Cells that are written from a place on. -/
theorem setCells_row {w : World} {g : Nat} {cur : Array Value} {t : TypeId} (h : w.heap[g]? = some (.cells cur t (0, 0))) : ∀ (vs : List Value) (o : Nat), ∃ cur' : Array Value, (w.setCells g o vs).heap[g]? = some (.cells cur' t (0, 0)) ∧ cur'.size = cur.size ∧ ∀ j, j < o → cur'[j]? = cur[j]? := by
  intro vs
  induction vs generalizing w cur with
  | nil => intro o; exact ⟨cur, h, rfl, fun _ _ => rfl⟩
  | cons v vs ih =>
    intro o
    obtain ⟨cur', h1, h2, h3⟩ := ih (heap_set_same (i := o) v h) (o + 1)
    refine ⟨cur', h1, by rw [h2]; simp, fun j hj => ?_⟩
    rw [h3 j (by omega), Array.getElem?_setIfInBounds, if_neg (by omega)]
theorem setCells_other {g k : Nat} (hk : k ≠ g) : ∀ (vs : List Value) (o : Nat) (w : World), (w.setCells g o vs).heap[k]? = w.heap[k]?
  | [], _, _ => rfl
  | v :: vs, o, w => by
    show ((w.setCell ⟨g, o, none⟩ v).setCells g (o + 1) vs).heap[k]? = _
    rw [setCells_other hk vs (o + 1), heap_set_other v hk]
theorem setCells_below {B g : Nat} {a : World} (hb : B ≤ g) : ∀ (vs : List Value) (o : Nat) (w : World), Below B a w → Below B a (w.setCells g o vs)
  | [], _, _, h => h
  | _ :: vs, o, _, h => setCells_below hb vs (o + 1) _ (h.setCell hb _)
theorem RowAt.cleared {w : World} {g S : Nat} {D : List It} (h : RowAt w g S D) (o : Nat) (vs : List Value) (ho : D.length * 3 ≤ o) : RowAt (w.setCells g o vs) g S D := by
  have hf := h.fits
  obtain ⟨cur, h1, h2, h3⟩ := h.is
  obtain ⟨cur', k1, k2, k3⟩ := setCells_row h1 vs o
  refine ⟨cur', k1, k2.trans h2, ?_⟩
  rw [← h3]
  apply List.ext_getElem?
  intro j
  rw [List.getElem?_take, List.getElem?_take, Array.getElem?_toList, Array.getElem?_toList]
  split
  · exact k3 j (by omega)
  · rfl

theorem info36z : (Try.prog.info? 28).map (fun i => (i.zero, i.size, i.bytes)) = some (some (.agg #[.slice none 0 0, .slice none 0 0, .bool false]), 3, 56) := by kernel_rfl
theorem info36' : ∃ i, Try.prog.info? 28 = some i ∧ i.zero = some (.agg #[.slice none 0 0, .slice none 0 0, .bool false]) ∧ i.size = 3 ∧ i.bytes = 56 := by
  have h := info36z
  cases hi : Try.prog.info? 28 with
  | none => rw [hi] at h; simp at h
  | some i => rw [hi] at h; simp at h; exact ⟨i, rfl, h⟩

theorem slice_one3 {B : Nat} {w : World} {e : It} (h : e.Ok B w) : ∀ u ∈ e.cells, u.oneCell' = true := fun u hu =>
  flat_one (L := [e]) (B := B) (w := w) (fun x hx => by simp at hx; rw [hx]; exact h) u (by simpa [flat] using hu)
theorem take_next {E : List It} {i : Nat} {x : It} (hx : E[i]? = some x) : (E.take (i + 1)).map (·.r) = (E.take i).map (·.r) ++ [x.r] := by
  rw [List.take_add_one, hx]; simp
/-- Rising by Lo. -/
def Rises (L : List It) : Prop := L.Pairwise fun x y => x.r.lo ≤ y.r.lo
end Go.Proofs.Ytaehchijeinloab
