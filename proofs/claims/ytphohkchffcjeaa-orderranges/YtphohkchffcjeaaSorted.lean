/- The row, sorted by Lo; rising. -/
import Derived.Test.YtphohkchffcjeaaRising
import Derived.Sort.OwnSorted
import Derived.Shelf.SlSortCmp.NoneTotal
namespace Go.Proofs.Ytphohkchffcjeaa
open Go.RowKit Go.Sort Go.Shelf

theorem grow_draws (w : World) (os : Array Obj) (q : Nat) : (grow w os).drewN q = grow (w.drewN q) os := rfl

set_option maxRecDepth 100000 in
/-- The closure that holds two ranges against one another. -/
theorem byLo_any {w : World} {v u : Value} {r o : Rg} (h : RangeAt w v r) (hu : RangeAt w u o) :
    Calls Try.prog 60 #[v, u] w fun e w' => e = .returned (.int .i64 (cmpK r.lo o.lo)) ∧ ∃ q os', w' = grow (w.drewN q) os' := by
  obtain ⟨v1, v2, rfl, h1, h2⟩ := h.is
  obtain ⟨u1, u2, rfl, h3, h4⟩ := hu.is
  obtain ⟨⟨a1, c1, rfl, hb1, hx1⟩, hl1⟩ := h1
  obtain ⟨⟨a2, c2, rfl, hb2, hx2⟩, hl2⟩ := h2
  obtain ⟨⟨a3, c3, rfl, hb3, hx3⟩, hl3⟩ := h3
  obtain ⟨⟨a4, c4, rfl, hb4, hx4⟩, hl4⟩ := h4
  have HB : Hid (Below w.heap.size w ((w.alloc (.cells #[.slice a1 r.lo.length c1, .slice a2 r.hi.length c2, .bool r.all] 36)).alloc (.cells #[.slice a3 o.lo.length c3, .slice a4 o.hi.length c4, .bool o.all] 36))) := (below_new w _).alloc (by simp) _
  have HCO := compare_key (KeyAt.here ⟨⟨a1, c1, rfl, hb1, hx1⟩, hl1⟩ HB.out) (KeyAt.here ⟨⟨a3, c3, rfl, hb3, hx3⟩, hl3⟩ HB.out)
  clear h hu hb1 hb2 hb3 hb4 hx1 hx2 hx3 hx4
  go_enter Try.func60, Try.ntmps60
  go_wp2_with (go_at_call 22; refine HCO.mono ?_; rintro e w' ⟨rfl, q, rfl⟩)
  go_ret
  exact ⟨rfl, q, _, by rw [alloc_eq_grow, alloc_eq_grow, grow_grow]; rfl⟩

/-- What the sort goes over: ranges that may be read. -/
abbrev Sub (B : Nat) (w : World) := { e : It // e.Ok B w }
theorem nil_ok (B : Nat) (w : World) : It.Ok B w ⟨.slice none 0 0, .slice none 0 0, Rg.zero⟩ := by
  have : KeyIn B w (.slice none 0 0) [] := ⟨⟨none, 0, rfl, fun j c hj => by simp at hj, Nat.le_refl _, fun _ => rfl⟩, by decide⟩
  exact ⟨this, this⟩
instance (B : Nat) (w : World) : Inhabited (Sub B w) := ⟨⟨_, nil_ok B w⟩⟩
def encS {B : Nat} {w : World} (x : Sub B w) : List Value := x.1.cells
def cmpS {B : Nat} {w : World} (x y : Sub B w) : Int := cmpK x.1.r.lo y.1.r.lo
theorem ltS {B : Nat} {w : World} (x y : Sub B w) : ltOf cmpS x y = decide (x.1.r.lo < y.1.r.lo) := by simp [ltOf, cmpS, cmpK_lt]
theorem swoS (B : Nat) (w : World) : SWO (ltOf (cmpS (B := B) (w := w))) where
  irrefl x := by rw [ltS]; simp
  trans x y z h1 h2 := by rw [ltS] at *; simp at *; grind
  ntrans x y z h1 h2 := by rw [ltS] at *; simp at *; grind

theorem flatK_is {B : Nat} {w : World} (d : Array (Sub B w)) : (flatK encS 3 d).toList = flat (d.toList.map (·.1)) := by
  apply List.ext_getElem?
  intro j
  by_cases hj : j < d.size * 3
  · obtain ⟨i, m, hm, rfl⟩ : ∃ i m, m < 3 ∧ j = i * 3 + m := ⟨j / 3, j % 3, Nat.mod_lt _ (by decide), by omega⟩
    have hi : i < d.size := by omega
    have e1 : (i * 3 + m) / 3 = i := by omega
    have e2 : (i * 3 + m) % 3 = m := by omega
    have hL : (d.toList.map (·.1))[i]? = some (d[i]).1 := by simp [hi]
    obtain ⟨a, b, c⟩ := flat_get _ i _ hL
    rw [Array.getElem?_toList, Array.getElem?_eq_getElem (by rw [size_flatK]; exact hj), ← getElem!_pos, get_flatK _ _ _ _ hj, e1, e2, getElem!_pos d i hi]
    match m, hm with
    | 0, _ => exact a.symm
    | 1, _ => exact b.symm
    | 2, _ => exact c.symm
  · rw [List.getElem?_eq_none (by simp; omega), List.getElem?_eq_none (by rw [flat_length]; simp; omega)]

theorem holdsS {B : Nat} {w0 w : World} {g S : Nat} (d : Array (Sub B w0)) (h : RowAt w g S (d.toList.map (·.1))) : HoldsK encS 3 w g 0 d := by
  intro j hj
  rw [size_flatK] at hj
  refine ⟨?_, by rw [Nat.zero_add]; exact h.open j⟩
  obtain ⟨cur, h1, h2, h3⟩ := h.is
  rw [Nat.zero_add, row_cell h1]
  have e : cur[j]? = (flat (d.toList.map (·.1)))[j]? := by
    rw [← h3, List.getElem?_take, if_pos (by simpa using hj), Array.getElem?_toList]
  rw [e, ← flatK_is, Array.getElem?_toList, Array.getElem?_eq_getElem (by rw [size_flatK]; exact hj), getElem!_pos]
  rfl

theorem rowS {B : Nat} {w0 w : World} {g S : Nat} (d d' : Array (Sub B w0)) (h : RowAt w g S (d.toList.map (·.1))) (hs : d'.size = d.size) (n : Nat) (os : Array Obj) : RowAt (sortWorldK encS 3 w g 0 n d' os) g S (d'.toList.map (·.1)) := by
  have hf := h.fits
  have hl := h.lt
  obtain ⟨cur, h1, h2, h3⟩ := h.is
  have hb : (sortWorldK encS 3 w g 0 n d' os).heap[g]? = some (.cells (putCells id 0 (flatK encS 3 d') cur) 36 (0, 0)) := by
    unfold sortWorldK putRowK
    rw [heap_grow_old _ _ (by simpa using hl)]
    simp [putRow, mapBlock, Sort.ahead, Array.getElem?_modify, h1, onCells]
  refine ⟨_, hb, by simp [putCells, h2], ?_⟩
  rw [← flatK_is]
  simp at hf
  apply List.ext_getElem?
  intro j
  rw [List.getElem?_take]
  by_cases hj : j < d'.size * 3
  · rw [if_pos (by simpa using hj), Array.getElem?_toList, Array.getElem?_toList]
    have e : (flatK encS 3 d')[j]? = some ((flatK encS 3 d')[j]!) := by
      rw [Array.getElem?_eq_getElem (by rw [size_flatK]; exact hj), getElem!_pos]
    rw [e]
    simp [putCells, show j < cur.size by omega, hj]
  · rw [if_neg (by simpa using hj), List.getElem?_eq_none (by simp; omega)]
theorem belowS {B g : Nat} {w0 w : World} (d' : Array (Sub B w0)) (hB : B ≤ g) (hg : g < w.heap.size) (n : Nat) (os : Array Obj) : Below B w (sortWorldK encS 3 w g 0 n d' os) := by
  unfold sortWorldK putRowK
  refine ⟨rfl, rfl, rfl, by simp, fun k hk => ?_⟩
  have hkl : k < w.heap.size := by omega
  rw [heap_grow_old _ _ (by simpa using hkl)]
  have : g ≠ k := by omega
  simp [putRow, mapBlock, Sort.ahead, Array.getElem?_modify, this]

theorem attach_map {α : Type} {p : α → Prop} (l : List α) (h : ∀ x ∈ l, p x) : ∃ m : List { x // p x }, m.map (·.1) = l := by
  induction l with
  | nil => exact ⟨[], rfl⟩
  | cons x l ih =>
    obtain ⟨m, hm⟩ := ih fun y hy => h y (List.mem_cons_of_mem _ hy)
    exact ⟨⟨x, h x List.mem_cons_self⟩ :: m, by simp [hm]⟩

/-- Rising by Lo. -/
def Rises (L : List It) : Prop := L.Pairwise fun x y => x.r.lo ≤ y.r.lo

theorem sort_any {B : Nat} {w : World} {g c : Nat} {D : List It} (hB : B ≤ g) (h : RowAt w g (c * 3) D) (hok : ∀ e ∈ D, e.Ok B w) (hlen : D.length ≤ 4398046511104) :
    Calls Try.prog 59 #[.slice (some ⟨g, 0, none⟩) D.length c, .func (.func 60) #[] #[]] w fun e w' => e = .returned (.tuple #[]) ∧ ∃ E : List It, E.Perm D ∧ Rises E ∧ RowAt w' g (c * 3) E ∧ Below B w w' := by
  obtain ⟨m, hm⟩ := attach_map (p := fun e => It.Ok B w e) D hok
  have hl : m.length = D.length := by rw [← hm]; simp
  have hg := h.lt
  have hR : RowAt w g (c * 3) (m.toArray.toList.map (·.1)) := by simpa [hm] using h
  have hC : CmpLays Try.prog 60 #[] (encS (B := B) (w := w)) 3 cmpS g 0 m.toArray.size w := fun n os dk hs x y => by
    have hb := belowS (w := w) dk hB hg n os
    have hs' : B ≤ (sortWorldK encS 3 w g 0 n dk os).heap.size := Nat.le_trans (Nat.le_trans hB (Nat.le_of_lt hg)) hb.size
    exact byLo_any ((x.2.below hb).range.at hs') ((y.2.below hb).range.at hs')
  have hcon := AnyQ.slices_SortFunc Try.sortR 3 Try.isAgg36 Try.sizeOf36 (encS (B := B) (w := w)) (fun _ => rfl) (fun x v hv => flat_one (L := [x.1]) (B := B) (w := w) (fun e he => by simp at he; rw [he]; exact x.2) v (by simpa [flat, encS] using hv)) cmpS (swoS B w) 60 #[] g 0 c m.toArray w (enters_of Try.func60 (by kernel_rfl) rfl) hC (holdsS _ hR) hg (by simp [hl]; omega)
  change Calls Try.prog 59 _ _ _ at hcon
  simp only [List.size_toArray, hl] at hcon
  refine hcon.mono ?_
  rintro e w' ⟨rfl, d', n, os, ⟨hp1, _, hp3⟩, hsd, rfl⟩
  have hsz : d'.size = m.length := by simpa using hp1
  have hpm : d'.toList.Perm m := by
    have e1 : d'.extract 0 D.length = d' := by rw [← hl, ← hsz]; simp
    have e2 : m.toArray.extract 0 D.length = m.toArray := by rw [← hl]; simp
    rw [e1, e2] at hp3
    simpa using hp3
  refine ⟨rfl, d'.toList.map (·.1), ?_, ?_, rowS m.toArray d' hR (by simpa using hp1) n os, belowS d' hB hg n os⟩
  · rw [← hm]; exact hpm.map _
  · unfold Rises
    rw [List.pairwise_map, List.pairwise_iff_getElem]
    intro i j hi hj hij
    simp at hi hj
    have := hsd i j (Nat.zero_le _) hij (by omega)
    rw [ltS, getElem!_pos d' i (by omega), getElem!_pos d' j (by omega)] at this
    simp at this
    simp
    grind

theorem sort_none (w : World) (c : Nat) (fv : Value) : Calls Try.prog 59 #[.slice none 0 c, fv] w fun e w' => e = .returned (.tuple #[]) ∧ w' = w :=
  AnyF.slices_SortFunc_none Try.sortR none c fv w
theorem index_none (w : World) (c : Nat) (fv : Value) : Calls Try.prog 63 #[.slice none 0 c, fv] w fun e w' => e = .returned (.int .i64 (-1)) ∧ w' = w := by
  go_enter Try.func63, Try.ntmps63
  go_wp2
  go_loopw [8] (fun i wx => i = .int .i64 0 ∧ wx = w) (fun _ _ => 0)
  case atStart => exact ⟨rfl, rfl⟩
  case round =>
    obtain ⟨rfl, rfl⟩ := hrel
    go_wp2
    go_ret
    exact ⟨rfl, rfl⟩
theorem delete_none (w : World) (c : Nat) (fv : Value) : Calls Try.prog 57 #[.slice none 0 c, fv] w fun e w' => e = .returned (.slice none 0 c) ∧ w' = w := by
  go_enter Try.func57, Try.ntmps57
  go_wp2_with (go_at_call 63; refine (index_none w c fv).mono ?_; rintro e w' ⟨rfl, rfl⟩)
  go_ret
  exact ⟨rfl, rfl⟩

set_option maxRecDepth 100000 in
theorem rising_any {w : World} {v : Value} {L : List It} (h : ListAt w.heap.size w v L) :
    Calls Try.prog 46 #[v] w fun e w' => ∃ v' E, e = .returned v' ∧ E.Perm (L.filter fun x => !x.r.empty) ∧ Rises E ∧ w'.ownsRow w.heap.size 36 3 v' E.length (flat E) ∧ Below w.heap.size w w' := by
  have HL : Hid (ListAt w.heap.size w v L) := h
  have HC := clone_any h
  obtain ⟨a, c, rfl, _⟩ := h.is
  have hlen : L.length ≤ 4398046511104 := by have := h.short; omega
  clear h
  go_enter Try.func46, Try.ntmps46
  go_wp2_with fail
  refine HC.mono ?_
  rintro e w1 ⟨v1, rfl, hown, hb1⟩
  have HB1 : Hid (Below w.heap.size w w1) := hb1
  clear HC hb1
  rcases own_row hown with ⟨rfl, rfl⟩ | ⟨g, cc, rfl, hbg, hcc, hcm, hrow⟩
  · go_wp2_with fail
    refine (delete_none _ 0 _).mono ?_
    rintro e _ ⟨rfl, rfl⟩
    go_wp2_with fail
    refine (sort_none _ 0 _).mono ?_
    rintro e _ ⟨rfl, rfl⟩
    go_wp2
    go_ret
    exact ⟨_, [], rfl, List.Perm.refl _, List.Pairwise.nil, World.ownsRow_nil _ _ _ _, HB1.out⟩
  · have hok : ∀ e ∈ L, e.Ok w.heap.size w1 := fun e he => (HL.out.ok e he).below HB1.out
    have HD := delete_any hbg hrow hok hlen hcc
    have HK : Hid (keptOf L L.length = L.filter fun x => !x.r.empty) := by unfold Hid keptOf; rw [List.take_length]
    have HOK : Hid (∀ e ∈ L, e.Ok w.heap.size w1) := hok
    have hkl := keptOf_le L L.length
    clear hown hrow hok
    go_wp2_with fail
    refine HD.mono ?_
    rintro e w2 ⟨rfl, hrow2, hb2⟩
    have hok2 : ∀ e ∈ keptOf L L.length, e.Ok w.heap.size w2 := fun e he => (HOK.out e (List.mem_of_mem_take (List.mem_filter.1 he).1)).below hb2
    have HS := sort_any hbg hrow2 hok2 (by omega)
    have HB2 : Hid (Below w.heap.size w w2) := HB1.out.trans hb2
    clear HD hrow2 hb2 hok2
    go_wp2_with fail
    refine HS.mono ?_
    rintro e w3 ⟨rfl, E, hp, hr, hrow3, hb3⟩
    have HP : Hid _ := hp
    have HR : Hid (Rises E) := hr
    have HROW : Hid (RowAt w3 g (cc * 3) E) := hrow3
    have HB3 : Hid (Below w.heap.size w w3) := HB2.out.trans hb3
    have hEl : E.length = (keptOf L L.length).length := hp.length_eq
    clear HS hp hr hrow3 hb3
    go_wp2
    go_ret
    refine ⟨_, E, rfl, by rw [← HK.out]; exact HP.out, HR.out, ?_, HB3.out⟩
    rw [← hEl]
    exact HROW.out.own hbg hcm
end Go.Proofs.Ytphohkchffcjeaa
