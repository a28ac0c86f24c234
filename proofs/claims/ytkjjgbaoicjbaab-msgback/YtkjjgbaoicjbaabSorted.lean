/- A row of keys, sorted. -/
import Derived.Test.YtkjjgbaoicjbaabKRow
import Derived.Test.YtkjjgbaoicjbaabShelf
import Derived.Sort.OwnSorted
namespace Go.Proofs.Ytkjjgbaoicjbaab
open Go.RowKit Go.Sort Go.Shelf

/-- What the sort goes over: keys that may be read. -/
abbrev Sub (B : Nat) (w : World) := { e : Kc // KeyK B w e.v e.k }
instance (B : Nat) (w : World) : Inhabited (Sub B w) := ⟨⟨⟨.slice none 0 0, []⟩, ⟨.inr (NewKey.nil _ _)⟩⟩⟩
def encS {B : Nat} {w : World} (x : Sub B w) : Value := x.1.v
def cmpS {B : Nat} {w : World} (x y : Sub B w) : Int := cmpK x.1.k y.1.k
theorem ltS {B : Nat} {w : World} (x y : Sub B w) : ltOf cmpS x y = decide (x.1.k < y.1.k) := by simp [ltOf, cmpS, cmpK_lt]
theorem swoS (B : Nat) (w : World) : SWO (ltOf (cmpS (B := B) (w := w))) where
  irrefl x := by rw [ltS]; simp
  trans x y z h1 h2 := by rw [ltS] at *; simp at *; grind
  ntrans x y z h1 h2 := by rw [ltS] at *; simp at *; grind
theorem oneS (B : Nat) (w : World) : OneCell (encS (B := B) (w := w)) := fun x => by
  obtain ⟨a, c, e⟩ := x.2.one
  unfold encS; rw [e]; rfl
theorem holdsS {B : Nat} {w0 w : World} {g c : Nat} (d : Array (Sub B w0)) (h : RowK w g c (d.toList.map (·.1))) : Holds encS w g 0 d := by
  intro j hj
  refine ⟨?_, by rw [Nat.zero_add]; exact h.open j⟩
  rw [Nat.zero_add]
  have := h.cell (i := j) (e := (d[j]).1) (by simp [hj])
  rw [this, getElem!_pos d j hj]; rfl
theorem rowS {B : Nat} {w0 w : World} {g c : Nat} (d d' : Array (Sub B w0)) (h : RowK w g c (d.toList.map (·.1))) (hs : d'.size = d.size) (n : Nat) (os : Array Obj) : RowK (sortWorld encS w g 0 n d' os) g c (d'.toList.map (·.1)) := by
  have hf := h.fits
  have hl := h.lt
  obtain ⟨cur, h1, h2, h3⟩ := h.is
  have hb : (sortWorld encS w g 0 n d' os).heap[g]? = some (.cells (putCells encS 0 d' cur) 23 (0, 0)) := by
    unfold sortWorld
    rw [heap_grow_old _ _ (by simpa [putRow, mapBlock, Sort.ahead] using hl)]
    simp [putRow, mapBlock, Sort.ahead, Array.getElem?_modify, h1, onCells]
  refine ⟨_, hb, by simp [putCells, h2], ?_⟩
  simp at hf
  apply List.ext_getElem?
  intro j
  rw [List.getElem?_take]
  by_cases hj : j < d'.size
  · rw [if_pos (by simpa using hj), Array.getElem?_toList]
    simp [putCells, show j < cur.size by omega, hj, encS]
  · rw [if_neg (by simpa using hj), List.getElem?_eq_none (by simp; omega)]
theorem keepS {B g c : Nat} {w0 w : World} {L : List Kc} (h : RowK w g c L) (d' : Array (Sub B w0)) (hB : B ≤ g) (n : Nat) (os : Array Obj) : Keep 23 B w (sortWorld encS w g 0 n d' os) := by
  have hg := h.lt
  obtain ⟨cur, h1, _⟩ := h.is
  have key : ∀ k, k ≠ g → k < w.heap.size → (sortWorld encS w g 0 n d' os).heap[k]? = w.heap[k]? := fun k hk hkl => by
    unfold sortWorld
    rw [heap_grow_old _ _ (by simpa [putRow, mapBlock, Sort.ahead] using hkl)]
    have : g ≠ k := fun e => hk e.symm
    simp [putRow, mapBlock, Sort.ahead, Array.getElem?_modify, this]
  refine ⟨⟨rfl, rfl, rfl, by simp [sortWorld, putRow, mapBlock, Sort.ahead, grow], fun k hk => key k (by omega) (by omega)⟩, fun k cu t z ht hk => ?_⟩
  rw [key k ?_ (Array.getElem?_eq_some_iff.1 hk).1]
  · exact hk
  · rintro rfl
    rw [h1] at hk
    simp only [Option.some.injEq, Obj.cells.injEq] at hk
    exact ht hk.2.1.symm
theorem attach_map {α : Type} {p : α → Prop} (l : List α) (h : ∀ x ∈ l, p x) : ∃ m : List { x // p x }, m.map (·.1) = l := by
  induction l with
  | nil => exact ⟨[], rfl⟩
  | cons x l ih =>
    obtain ⟨m, hm⟩ := ih fun y hy => h y (List.mem_cons_of_mem _ hy)
    exact ⟨⟨x, h x List.mem_cons_self⟩ :: m, by simp [hm]⟩

theorem sort_any {B : Nat} {w : World} {g c : Nat} {D : List Kc} (hb : B ≤ w.heap.size) (hB : B ≤ g) (h : RowK w g c D) (hok : ∀ e ∈ D, KeyK B w e.v e.k) (hlen : D.length ≤ 4398046511104) :
    Calls Try.prog 36 #[.slice (some ⟨g, 0, none⟩) D.length c, .func (.func 37) #[] #[]] w fun e w' => e = .returned (.tuple #[]) ∧ ∃ E : List Kc, E.Perm D ∧ (keysOf E).Pairwise (· ≤ ·) ∧ RowK w' g c E ∧ Keep 23 B w w' := by
  obtain ⟨m, hm⟩ := attach_map (p := fun e : Kc => KeyK B w e.v e.k) D hok
  have hl : m.length = D.length := by rw [← hm]; simp
  have hg := h.lt
  have hR : RowK w g c (m.toArray.toList.map (·.1)) := by simpa [hm] using h
  have hC : CmpLays1 Try.prog 37 #[] (encS (B := B) (w := w)) cmpS g 0 m.toArray.size w := fun n os dk hs x y => by
    have hk := keepS hR dk hB n os
    have hs' : B ≤ (sortWorld encS w g 0 n dk os).heap.size := Nat.le_trans hb hk.low.size
    refine (compare_key ((x.2.keep hk (by decide)).at hs') ((y.2.keep hk (by decide)).at hs')).mono ?_
    rintro e w' ⟨rfl, q, rfl⟩
    exact ⟨rfl, q, #[], by rw [grow_empty]⟩
  have hcon := Any.slices_SortFunc Try.sortR (encS (B := B) (w := w)) (oneS B w) cmpS (swoS B w) 37 #[] g 0 c m.toArray w (enters_of Try.func37 (by kernel_rfl) rfl) hC (holdsS _ hR) hg (by simp [hl]; omega)
  change Calls Try.prog 36 _ _ _ at hcon
  simp only [List.size_toArray, hl] at hcon
  refine hcon.mono ?_
  rintro e w' ⟨rfl, d', n, os, ⟨hp1, _, hp3⟩, hsd, rfl⟩
  have hsz : d'.size = m.length := by simpa using hp1
  have hpm : d'.toList.Perm m := by
    have e1 : d'.extract 0 D.length = d' := by rw [← hl, ← hsz]; simp
    have e2 : m.toArray.extract 0 D.length = m.toArray := by rw [← hl]; simp
    rw [e1, e2] at hp3
    simpa using hp3
  refine ⟨rfl, d'.toList.map (·.1), ?_, ?_, rowS m.toArray d' hR (by simpa using hp1) n os, keepS hR d' hB n os⟩
  · rw [← hm]; exact hpm.map _
  · unfold keysOf
    rw [List.map_map, List.pairwise_map, List.pairwise_iff_getElem]
    intro i j hi hj hij
    simp at hi hj
    have := hsd i j (Nat.zero_le _) hij (by omega)
    rw [ltS, getElem!_pos d' i (by omega), getElem!_pos d' j (by omega)] at this
    simp at this
    simp
    grind
theorem sort_none (w : World) (c : Nat) (fv : Value) : Calls Try.prog 36 #[.slice none 0 c, fv] w fun e w' => e = .returned (.tuple #[]) ∧ w' = w :=
  AnyF.slices_SortFunc_none { Try.sortR with } none c fv w
end Go.Proofs.Ytkjjgbaoicjbaab
