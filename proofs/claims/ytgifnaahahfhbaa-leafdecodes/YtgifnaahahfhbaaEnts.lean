/- Entries in memory: keys and values, rows of entries. -/
import Derived.Test.YtgifnaahahfhbaaSmall
import Derived.Test.YtgifnaahahfhbaaLeaf
import Derived.Deep.RegionWith
import Derived.Deep.RegionLaw
import Derived.Deep.DeepCutAuto
import Derived.Lib.SliceRun
namespace Go.Proofs.Ytgifnaahahfhbaa
open Go.RowKit

/-- A key whose bytes lie below a border. -/
structure KeyIn (B : Nat) (w : World) (v : Value) (ks : Key) : Prop where
  is : ∃ a c, v = .slice a ks.length c ∧ BytesAt B w a ks ∧ ks.length ≤ c ∧ (a = none → c = 0)
  short : ks.length ≤ 140737488355328
theorem KeyIn.at {B : Nat} {w : World} {v : Value} {ks : Key} (h : KeyIn B w v ks) (hB : B ≤ w.heap.size) : KeyAt w v ks := by
  obtain ⟨⟨a, c, rfl, h1, h2⟩, h3⟩ := h
  exact ⟨⟨a, c, rfl, h1.mono hB, h2⟩, h3⟩
theorem KeyAt.in {w : World} {v : Value} {ks : Key} (h : KeyAt w v ks) : KeyIn w.heap.size w v ks := ⟨h.is, h.short⟩
theorem KeyIn.below {B : Nat} {w w' : World} {v : Value} {ks : Key} (h : KeyIn B w v ks) (hb : Below B w w') : KeyIn B w' v ks := by
  obtain ⟨⟨a, c, rfl, h1, h2⟩, h3⟩ := h
  exact ⟨⟨a, c, rfl, h1.below hb, h2⟩, h3⟩
theorem KeyIn.form {B : Nat} {w : World} {v : Value} {ks : Key} (h : KeyIn B w v ks) : ∃ a c, v = .slice a ks.length c := by
  obtain ⟨a, c, h, _⟩ := h.is; exact ⟨a, c, h⟩

theorem KeyIn.mono {B B' : Nat} {w : World} {v : Value} {ks : Key} (h : KeyIn B w v ks) (hB : B ≤ B') : KeyIn B' w v ks := by
  obtain ⟨⟨a, c, rfl, h1, h2⟩, h3⟩ := h
  exact ⟨⟨a, c, rfl, h1.mono hB, h2⟩, h3⟩

/-- An entry in a row: its two values, and what it is. -/
structure It where
  v1 : Value
  v2 : Value
  e : En
  deriving Inhabited
def It.cells (x : It) : List Value := [x.v1, x.v2]
def It.val (x : It) : Value := .agg #[x.v1, x.v2]
structure It.Ok (B : Nat) (w : World) (x : It) : Prop where
  k : KeyIn B w x.v1 x.e.k
  v : KeyIn B w x.v2 x.e.v
theorem It.Ok.below {B : Nat} {w w' : World} {e : It} (h : e.Ok B w) (hb : Below B w w') : e.Ok B w' := ⟨h.k.below hb, h.v.below hb⟩
theorem It.Ok.mono {B B' : Nat} {w : World} {e : It} (h : e.Ok B w) (hB : B ≤ B') : e.Ok B' w := ⟨h.k.mono hB, h.v.mono hB⟩
theorem It.Ok.here {w w' : World} {e : It} (h : e.Ok w.heap.size w) (hb : Below w.heap.size w w') : e.Ok w'.heap.size w' := (h.below hb).mono hb.size
def flat (L : List It) : List Value := L.flatMap It.cells
theorem flat_cons (e : It) (L : List It) : flat (e :: L) = e.v1 :: e.v2 :: flat L := rfl
theorem flat_append (L M : List It) : flat (L ++ M) = flat L ++ flat M := List.flatMap_append
theorem flat_length (L : List It) : (flat L).length = L.length * 2 := by
  induction L with
  | nil => rfl
  | cons e L ih => rw [flat_cons]; simp [ih]; omega
theorem flat_get (L : List It) (i : Nat) (e : It) (h : L[i]? = some e) : (flat L)[i * 2]? = some e.v1 ∧ (flat L)[i * 2 + 1]? = some e.v2 := by
  induction L generalizing i with
  | nil => simp at h
  | cons x L ih =>
    rw [flat_cons]
    cases i with
    | zero => simp at h; subst h; exact ⟨rfl, rfl⟩
    | succ i =>
      have := ih i (by simpa using h)
      rw [show (i + 1) * 2 = i * 2 + 1 + 1 by omega]
      simp only [List.getElem?_cons_succ]
      exact this
theorem flat_take (L : List It) (i : Nat) : (flat L).take (i * 2) = flat (L.take i) := by
  induction L generalizing i with
  | nil => simp [flat]
  | cons e L ih =>
    cases i with
    | zero => simp [flat]
    | succ i =>
      rw [List.take_succ_cons, flat_cons, flat_cons, show (i + 1) * 2 = i * 2 + 1 + 1 by omega]
      simp [ih]
theorem flat_drop (L : List It) (i : Nat) : (flat L).drop (i * 2) = flat (L.drop i) := by
  induction L generalizing i with
  | nil => simp [flat]
  | cons e L ih =>
    cases i with
    | zero => simp [flat]
    | succ i =>
      rw [List.drop_succ_cons, flat_cons, show (i + 1) * 2 = i * 2 + 1 + 1 by omega]
      simp [ih]
theorem flat_set (L : List It) (i : Nat) (e : It) (h : i < L.length) : flat (L.set i e) = ((flat L).set (i * 2) e.v1).set (i * 2 + 1) e.v2 := by
  induction L generalizing i with
  | nil => simp at h
  | cons x L ih =>
    cases i with
    | zero => rfl
    | succ i =>
      rw [List.set_cons_succ, flat_cons, ih i (by simpa using h), flat_cons, show (i + 1) * 2 = i * 2 + 1 + 1 by omega]
      simp only [List.set_cons_succ]
theorem It.Ok.one {B : Nat} {w : World} {x : It} (h : x.Ok B w) : x.v1.oneCell' = true ∧ x.v2.oneCell' = true := by
  obtain ⟨a, c, e1⟩ := h.k.form
  obtain ⟨a', c', e2⟩ := h.v.form
  rw [e1, e2]; exact ⟨rfl, rfl⟩
theorem flat_one {B : Nat} {w : World} {L : List It} (h : ∀ e ∈ L, e.Ok B w) : ∀ u ∈ flat L, u.oneCell' = true := fun u hu => by
  obtain ⟨e, he, hu⟩ := List.mem_flatMap.1 hu
  obtain ⟨h1, h2⟩ := (h e he).one
  simp only [It.cells, List.mem_cons, List.not_mem_nil, or_false] at hu
  rcases hu with rfl | rfl
  · exact h1
  · exact h2

/-- A block whose first cells are these entries. -/
structure RowAt (w : World) (g S : Nat) (D : List It) : Prop where
  is : ∃ cur : Array Value, w.heap[g]? = some (.cells cur 47 (0, 0)) ∧ cur.size = S ∧ cur.toList.take (D.length * 2) = flat D
theorem RowAt.lt {w : World} {g S : Nat} {D : List It} (h : RowAt w g S D) : g < w.heap.size := by
  obtain ⟨cur, h1, _⟩ := h.is; exact (Array.getElem?_eq_some_iff.1 h1).1
theorem RowAt.fits {w : World} {g S : Nat} {D : List It} (h : RowAt w g S D) : D.length * 2 ≤ S := by
  obtain ⟨cur, _, h2, h3⟩ := h.is
  have := congrArg List.length h3
  rw [List.length_take, flat_length] at this
  simp at this
  omega
theorem RowAt.here {w w' : World} {g S : Nat} {D : List It} (h : RowAt w g S D) (hb : Below w.heap.size w w') : RowAt w' g S D := by
  have hl := h.lt
  obtain ⟨cur, h1, h2⟩ := h.is
  exact ⟨cur, by rw [hb.block g hl]; exact h1, h2⟩
theorem RowAt.block {w w' : World} {g S : Nat} {D : List It} (h : RowAt w g S D) (hb : w'.heap[g]? = w.heap[g]?) : RowAt w' g S D := by
  obtain ⟨cur, h1, h2⟩ := h.is
  exact ⟨cur, by rw [hb]; exact h1, h2⟩
theorem RowAt.cells {w : World} {g S : Nat} {D : List It} (h : RowAt w g S D) (i : Nat) (e : It) (hi : D[i]? = some e) : w.cell? ⟨g, i * 2, none⟩ = some e.v1 ∧ w.cell? ⟨g, i * 2 + 1, none⟩ = some e.v2 := by
  obtain ⟨cur, h1, h2, h3⟩ := h.is
  have hl := (List.getElem?_eq_some_iff.1 hi).1
  obtain ⟨a, b⟩ := flat_get D i e hi
  have key : ∀ j, j < D.length * 2 → cur[j]? = (flat D)[j]? := fun j hj => by
    rw [← h3, List.getElem?_take, if_pos hj, Array.getElem?_toList]
  rw [row_cell h1, row_cell h1, key _ (by omega), key _ (by omega)]
  exact ⟨a, b⟩
theorem RowAt.open {w : World} {g S : Nat} {D : List It} (h : RowAt w g S D) (j : Nat) : w.frozen? ⟨g, j, none⟩ = false := by
  obtain ⟨cur, h1, _⟩ := h.is; exact row_frozen h1 j
def putAt (w : World) (g i : Nat) (e : It) : World := (w.setCell ⟨g, i * 2, none⟩ e.v1).setCell ⟨g, i * 2 + 1, none⟩ e.v2
theorem RowAt.put {w : World} {g S : Nat} {D : List It} (h : RowAt w g S D) (i : Nat) (e : It) (hi : i < D.length) : RowAt (putAt w g i e) g S (D.set i e) := by
  have hf := h.fits
  obtain ⟨cur, h1, h2, h3⟩ := h.is
  refine ⟨_, heap_set_same _ (heap_set_same _ h1), by simpa using h2, ?_⟩
  rw [List.length_set, flat_set D i e hi, ← h3]
  simp [List.take_set]
theorem putAt_other {w : World} {g k i : Nat} {e : It} (hk : k ≠ g) : (putAt w g i e).heap[k]? = w.heap[k]? := by
  unfold putAt; rw [heap_set_other _ hk, heap_set_other _ hk]
theorem putAt_size (w : World) (g i : Nat) (e : It) : (putAt w g i e).heap.size = w.heap.size := by simp [putAt]
theorem putAt_below {B g i : Nat} {a w : World} {e : It} (h : Below B a w) (hb : B ≤ g) : Below B a (putAt w g i e) := (h.setCell hb _).setCell hb _
theorem RowAt.own {w : World} {base g c : Nat} {D : List It} (h : RowAt w g (c * 2) D) (hb : base ≤ g) (hc : c ≤ maxLen) : w.ownsRow base 47 2 (.slice (some ⟨g, 0, none⟩) D.length c) D.length (flat D) := by
  have hf := h.fits
  obtain ⟨cur, h1, h2, h3⟩ := h.is
  exact ⟨by rw [flat_length], .inr ⟨g, c, cur, rfl, hb, h1, by omega, hc, h2, h3⟩⟩
theorem own_row {w : World} {base : Nat} {v : Value} {D : List It} (h : w.ownsRow base 47 2 v D.length (flat D)) : (v = .slice none 0 0 ∧ D = []) ∨ ∃ g c, v = .slice (some ⟨g, 0, none⟩) D.length c ∧ base ≤ g ∧ D.length ≤ c ∧ c ≤ maxLen ∧ RowAt w g (c * 2) D := by
  obtain ⟨_, h2⟩ := h
  rcases h2 with ⟨e, h0⟩ | ⟨g, c, cur, e, hb, hg, hc, hm, hs, ht⟩
  · exact .inl ⟨e, List.eq_nil_of_length_eq_zero h0⟩
  · exact .inr ⟨g, c, e, hb, hc, hm, cur, hg, hs, ht⟩

/-- A list of entries. -/
structure ListAt (B : Nat) (w : World) (v : Value) (L : List It) : Prop where
  is : ∃ a c, v = .slice a L.length c ∧ L.length ≤ c ∧ (a = none → c = 0) ∧ ∀ j u, (flat L)[j]? = some u → ∃ g off, a = some ⟨g, off, none⟩ ∧ g < B ∧ w.cell? ⟨g, off + j, none⟩ = some u
  short : L.length * 48 ≤ 140737488355328
  ok : ∀ e ∈ L, e.Ok B w
theorem ListAt.below {B : Nat} {w w' : World} {v : Value} {L : List It} (h : ListAt B w v L) (hb : Below B w w') : ListAt B w' v L := by
  obtain ⟨⟨a, c, h1, h2, h3, h4⟩, h5, h6⟩ := h
  refine ⟨⟨a, c, h1, h2, h3, fun j u hj => ?_⟩, h5, fun e he => (h6 e he).below hb⟩
  obtain ⟨g, off, e1, e2, e3⟩ := h4 j u hj
  exact ⟨g, off, e1, e2, by rw [hb.cell e2]; exact e3⟩
theorem ListAt.mono {B B' : Nat} {w : World} {v : Value} {L : List It} (h : ListAt B w v L) (hB : B ≤ B') : ListAt B' w v L := by
  obtain ⟨⟨a, c, h1, h2, h3, h4⟩, h5, h6⟩ := h
  refine ⟨⟨a, c, h1, h2, h3, fun j u hj => ?_⟩, h5, fun e he => (h6 e he).mono hB⟩
  obtain ⟨g, off, e1, e2, e3⟩ := h4 j u hj
  exact ⟨g, off, e1, by omega, e3⟩
theorem ListAt.here {w w' : World} {v : Value} {L : List It} (h : ListAt w.heap.size w v L) (hb : Below w.heap.size w w') : ListAt w'.heap.size w' v L := (h.below hb).mono hb.size
theorem ListAt.form {B : Nat} {w : World} {v : Value} {L : List It} (h : ListAt B w v L) : ∃ a c, v = .slice a L.length c := by
  obtain ⟨⟨a, c, h1, _⟩, _⟩ := h; exact ⟨a, c, h1⟩
theorem ListAt.cells {B : Nat} {w : World} {v : Value} {L : List It} (h : ListAt B w v L) (i : Nat) (e : It) (hi : L[i]? = some e) :
    ∃ g off c, v = .slice (some ⟨g, off, none⟩) L.length c ∧ w.cell? ⟨g, off + i * 2, none⟩ = some e.v1 ∧ w.cell? ⟨g, off + i * 2 + 1, none⟩ = some e.v2 := by
  obtain ⟨⟨a, c, h1, h2, h3, h4⟩, _, _⟩ := h
  obtain ⟨f0, f1⟩ := flat_get L i e hi
  obtain ⟨g, off, rfl, _, k0⟩ := h4 _ _ f0
  obtain ⟨g', off', e1, _, k1⟩ := h4 _ _ f1
  cases e1
  exact ⟨g, off, c, h1, k0, by rw [Nat.add_assoc]; exact k1⟩
theorem ListAt.nil (B : Nat) (w : World) : ListAt B w (.slice none 0 0) [] := ⟨⟨none, 0, rfl, Nat.le_refl _, fun _ => rfl, fun j u hj => by simp [flat] at hj⟩, by decide, fun e he => by simp at he⟩

/-- Cells that are written from a place on. -/
theorem setCells_row {w : World} {g : Nat} {cur : Array Value} {t : TypeId} (h : w.heap[g]? = some (.cells cur t (0, 0))) : ∀ (vs : List Value) (o : Nat), ∃ cur' : Array Value, (w.setCells g o vs).heap[g]? = some (.cells cur' t (0, 0)) ∧ cur'.size = cur.size ∧ ∀ j, j < o → cur'[j]? = cur[j]? := by
  intro vs
  induction vs generalizing w cur with
  | nil => intro o; exact ⟨cur, h, rfl, fun _ _ => rfl⟩
  | cons v vs ih =>
    intro o
    obtain ⟨cur', h1, h2, h3⟩ := ih (heap_set_same (i := o) v h) (o + 1)
    refine ⟨cur', h1, by rw [h2]; simp, fun j hj => ?_⟩
    rw [h3 j (by omega), Array.getElem?_setIfInBounds, if_neg (by omega)]
theorem setCells_other {g k : Nat} (hk : k ≠ g) : ∀ (vs : List Value) (o : Nat) (w : World), (w.setCells g o vs).heap[k]? = w.heap[k]?
  | [], _, _ => rfl
  | v :: vs, o, w => by
    show ((w.setCell ⟨g, o, none⟩ v).setCells g (o + 1) vs).heap[k]? = _
    rw [setCells_other hk vs (o + 1), heap_set_other v hk]
theorem setCells_below {B g : Nat} {a : World} (hb : B ≤ g) : ∀ (vs : List Value) (o : Nat) (w : World), Below B a w → Below B a (w.setCells g o vs)
  | [], _, _, h => h
  | _ :: vs, o, _, h => setCells_below hb vs (o + 1) _ (h.setCell hb _)

theorem infoEz : (Try.prog.info? 47).map (fun i => (i.zero, i.size, i.bytes)) = some (some (.agg #[.slice none 0 0, .slice none 0 0]), 2, 48) := by kernel_rfl
theorem infoE' : ∃ i, Try.prog.info? 47 = some i ∧ i.zero = some (.agg #[.slice none 0 0, .slice none 0 0]) ∧ i.size = 2 ∧ i.bytes = 48 := by
  have h := infoEz
  cases hi : Try.prog.info? 47 with
  | none => rw [hi] at h; simp at h
  | some i => rw [hi] at h; simp at h; exact ⟨i, rfl, h⟩
end Go.Proofs.Ytgifnaahahfhbaa
