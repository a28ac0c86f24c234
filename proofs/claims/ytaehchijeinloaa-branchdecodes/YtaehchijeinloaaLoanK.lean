/- The law's Loan of Kids, in memory. -/
import Derived.Test.YtaehchijeinloaaMake
import Derived.Deep.AppendLies
namespace Go.Proofs.Ytaehchijeinloaa
open Go.RowKit

def mk3 : Key := [167, 167, 167]
def markK : Key := [109, 97, 114, 107]
/-- A key that is lent: its block, and what it is. -/
structure Lk where
  g : Nat
  k : Key
def Lk.kv (z : Lk) : Value := .slice (some ⟨z.g, 0, none⟩) (z.k.length + 3) (z.k.length + 3)
def Lk.lv (z : Lk) : Value := .slice (some ⟨z.g, 0, none⟩) z.k.length (z.k.length + 3)
def Lk.kc (z : Lk) : Kc := ⟨z.lv, z.k⟩
structure Lk.Ok (lo : Nat) (w : World) (z : Lk) : Prop where
  lo : lo ≤ z.g
  row : w.heap[z.g]? = some (.cells ((z.k ++ mk3).map encB).toArray 5 (0, 0))
  short : z.k.length ≤ 4294967296
theorem Lk.Ok.lt {lo : Nat} {w : World} {z : Lk} (h : z.Ok lo w) : z.g < w.heap.size := (Array.getElem?_eq_some_iff.1 h.row).1
theorem Lk.Ok.here {lo : Nat} {w w' : World} {z : Lk} (h : z.Ok lo w) (hb : Below w.heap.size w w') : z.Ok lo w' := ⟨h.lo, (hb.block _ h.lt).trans h.row, h.short⟩
/-- A row of numbers in a block of its own. -/
structure IRow (lo : Nat) (w : World) (g : Nat) (ps : List Int) : Prop where
  lo : lo ≤ g
  row : w.heap[g]? = some (.cells (ps.map encI).toArray 3 (0, 0))
theorem IRow.lt {lo g : Nat} {w : World} {ps : List Int} (h : IRow lo w g ps) : g < w.heap.size := (Array.getElem?_eq_some_iff.1 h.row).1
theorem IRow.here {lo g : Nat} {w w' : World} {ps : List Int} (h : IRow lo w g ps) (hb : Below w.heap.size w w') : IRow lo w' g ps := ⟨h.lo, (hb.block _ h.lt).trans h.row⟩
theorem IRow.cell {lo g : Nat} {w : World} {ps : List Int} (h : IRow lo w g ps) (i : Nat) (p : Int) (hi : ps[i]? = some p) : w.cell? ⟨g, i, none⟩ = some (.int .i64 p) ∧ w.frozen? ⟨g, i, none⟩ = false :=
  ⟨by rw [row_cell h.row]; simp [hi, encI], row_frozen h.row _⟩
theorem IRow.set {lo g : Nat} {w : World} {ps : List Int} (h : IRow lo w g ps) (i : Nat) (p : Int) : IRow lo (w.setCell ⟨g, i, none⟩ (.int .i64 p)) g (ps.set i p) :=
  ⟨h.lo, by rw [heap_set_same _ h.row]; congr 1; apply congrArg (fun a => Obj.cells a _ _); apply Array.ext'; simp [List.map_set, encI]⟩
/-- The Loan's own block. -/
structure LBox (w : World) (b : Nat) (x0 x1 x2 x3 x4 : Value) : Prop where
  row : w.heap[b]? = some (.cells #[x0, x1, x2, x3, x4] 33 (0, 0))
theorem LBox.lt {w : World} {b : Nat} {x0 x1 x2 x3 x4 : Value} (h : LBox w b x0 x1 x2 x3 x4) : b < w.heap.size := (Array.getElem?_eq_some_iff.1 h.row).1
theorem LBox.cells {w : World} {b : Nat} {x0 x1 x2 x3 x4 : Value} (h : LBox w b x0 x1 x2 x3 x4) : w.cell? ⟨b, 0, none⟩ = some x0 ∧ w.cell? ⟨b, 1, none⟩ = some x1 ∧ w.cell? ⟨b, 2, none⟩ = some x2 ∧ w.cell? ⟨b, 3, none⟩ = some x3 ∧ w.cell? ⟨b, 4, none⟩ = some x4 :=
  ⟨by rw [row_cell h.row]; rfl, by rw [row_cell h.row]; rfl, by rw [row_cell h.row]; rfl, by rw [row_cell h.row]; rfl, by rw [row_cell h.row]; rfl⟩
theorem LBox.open {w : World} {b : Nat} {x0 x1 x2 x3 x4 : Value} (h : LBox w b x0 x1 x2 x3 x4) (i : Nat) : w.frozen? ⟨b, i, none⟩ = false := row_frozen h.row _
theorem LBox.here {w w' : World} {b : Nat} {x0 x1 x2 x3 x4 : Value} (h : LBox w b x0 x1 x2 x3 x4) (hb : Below w.heap.size w w') : LBox w' b x0 x1 x2 x3 x4 := ⟨by rw [hb.block b h.lt]; exact h.row⟩

/-- All below a border stays, and all memory but rows of keys and Loans. -/
structure KeepL (base : Nat) (w w' : World) : Prop where
  low : Below base w w'
  typ : ∀ (k : Nat) (cur : Array Value) (t : TypeId) z, t ≠ 27 → t ≠ 33 → w.heap[k]? = some (Obj.cells cur t z) → w'.heap[k]? = some (Obj.cells cur t z)
theorem KeepL.of {B : Nat} {w w' : World} (h : Below w.heap.size w w') (hB : B ≤ w.heap.size) : KeepL B w w' := ⟨h.mono hB, fun k cur t z _ _ hk => by rw [h.block k (Array.getElem?_eq_some_iff.1 hk).1]; exact hk⟩
theorem KeepL.trans {B : Nat} {a b c : World} (h : KeepL B a b) (k : KeepL B b c) : KeepL B a c := ⟨h.low.trans k.low, fun i cur t z h1 h2 hi => k.typ i cur t z h1 h2 (h.typ i cur t z h1 h2 hi)⟩
theorem Lk.Ok.keep {lo B : Nat} {w w' : World} {z : Lk} (h : z.Ok lo w) (hk : KeepL B w w') : z.Ok lo w' := ⟨h.lo, hk.typ _ _ _ _ (by decide) (by decide) h.row, h.short⟩
theorem IRow.keep {lo g B : Nat} {w w' : World} {ps : List Int} (h : IRow lo w g ps) (hk : KeepL B w w') : IRow lo w' g ps := ⟨h.lo, hk.typ _ _ _ _ (by decide) (by decide) h.row⟩

/-- While Kids are lent. -/
structure Lent (base b gp : Nat) (w : World) (vp : Value) (ps : List Int) (F : List Lk) (KV LV : List Value) (vk vl : Value) : Prop where
  box : LBox w b (.slice none 0 0) (.slice none 0 0) vp vk vl
  hb : base ≤ b
  pages : IRow base w gp ps
  keys : w.ownsRow base 27 1 vk KV.length KV
  list : w.ownsRow base 27 1 vl LV.length LV
  apart : ∀ g, vk.ownBlock = some g → vl.ownBlock ≠ some g
  ok : ∀ z ∈ F, z.Ok base w
theorem Lent.here {base b gp : Nat} {w w' : World} {vp vk vl : Value} {ps : List Int} {F : List Lk} {KV LV : List Value} (h : Lent base b gp w vp ps F KV LV vk vl) (hb : Below w.heap.size w w') : Lent base b gp w' vp ps F KV LV vk vl :=
  ⟨h.box.here hb, h.hb, h.pages.here hb, own_same h.keys fun k _ hl => hb.block k hl, own_same h.list fun k _ hl => hb.block k hl, h.apart, fun z hz => (h.ok z hz).here hb⟩
/-- An append onto one of the Loan's rows of keys, and its store. -/
theorem grown_typ {base : Nat} {wA w6 : World} {v : Value} {XS : List Value} {n : Nat} (hv : wA.ownsRow base 27 1 v n XS) (hg : wA.grownBy w6 v.ownBlock) (k : Nat) (cur : Array Value) (t : TypeId) (z : Nat × Nat) (ht : t ≠ 27) (hk : wA.heap[k]? = some (Obj.cells cur t z)) : w6.heap[k]? = some (Obj.cells cur t z) := by
  rw [hg.block k (Array.getElem?_eq_some_iff.1 hk).1 (fun e => by
    obtain ⟨_, _, cur', h'⟩ := own_type hv k e.symm
    rw [hk] at h'
    simp only [Option.some.injEq, Obj.cells.injEq] at h'
    exact ht h'.2.1)]
  exact hk
theorem keepL_put {base b i : Nat} {w w6 : World} {vk : Value} {KV : List Value} {n : Nat} {wA : World} {x0 x1 x2 x3 x4 : Value} (hA : Below w.heap.size w wA) (hv : wA.ownsRow base 27 1 vk n KV) (hg : wA.grownBy w6 vk.ownBlock) (hbox : LBox w6 b x0 x1 x2 x3 x4) (hb : base ≤ b) (hbase : base ≤ w.heap.size) (u : Value) : KeepL base w (w6.setCell ⟨b, i, none⟩ u) := by
  have hsA := hA.size
  have ho6 : ∀ k : Nat, k ≠ b → (w6.setCell ⟨b, i, none⟩ u).heap[k]? = w6.heap[k]? := fun k hk => heap_set_other _ hk
  have hlow : Below base w w6 := (hA.mono hbase).trans ((Below.refl _ _).grown hg (Nat.le_trans hbase hsA) (fun k e => (own_type hv k e).2.1))
  refine ⟨hlow.trans ((Below.refl _ _).setCell hb _), fun k cur t z h1 h2 hk => ?_⟩
  have e1 : wA.heap[k]? = some (.cells cur t z) := by rw [hA.block k (Array.getElem?_eq_some_iff.1 hk).1]; exact hk
  have e2 := grown_typ hv hg k cur t z h1 e1
  rw [ho6 k (fun e => by
    subst e
    rw [hbox.row] at e2
    simp only [Option.some.injEq, Obj.cells.injEq] at e2
    exact h2 e2.2.1.symm)]
  exact e2
theorem Lent.keyed {base b gp g m c : Nat} {w wA w6 : World} {vp : Value} {ps : List Int} {F : List Lk} {KV LV : List Value} {vk vl x : Value} (h : Lent base b gp w vp ps F KV LV vk vl) (hA : Below w.heap.size w wA) (hg : wA.grownBy w6 vk.ownBlock)
    (hat : vk.ownBlock = some g ∨ g = wA.heap.size) (ho : w6.ownsRow base 27 1 (.slice (some ⟨g, 0, none⟩) m c) (KV.length + 1) (KV ++ [x])) (hbase : base ≤ w.heap.size) :
    Lent base b gp (w6.setCell ⟨b, 3, none⟩ (.slice (some ⟨g, 0, none⟩) m c)) vp ps F (KV ++ [x]) LV (.slice (some ⟨g, 0, none⟩) m c) vl ∧ KeepL base w (w6.setCell ⟨b, 3, none⟩ (.slice (some ⟨g, 0, none⟩) m c)) := by
  have h0 := h.here hA
  have hb6 : LBox w6 b (.slice none 0 0) (.slice none 0 0) vp vk vl := ⟨grown_typ h0.keys hg _ _ _ _ (by decide) h0.box.row⟩
  have ho6 : ∀ k : Nat, k ≠ b → (w6.setCell ⟨b, 3, none⟩ (.slice (some ⟨g, 0, none⟩) m c)).heap[k]? = w6.heap[k]? := fun k hk => heap_set_other _ hk
  have hgb : g ≠ b := by
    obtain ⟨_, _, cur, hc⟩ := own_type ho g rfl
    exact tag_ne hc hb6.row (by decide)
  have hkp := keepL_put (i := 3) hA h0.keys hg hb6 h.hb hbase (.slice (some ⟨g, 0, none⟩) m c)
  refine ⟨⟨⟨by rw [heap_set_same _ hb6.row]; rfl⟩, h.hb, h.pages.keep hkp, ?_, ?_, ?_, fun z hz => (h.ok z hz).keep hkp⟩, hkp⟩
  · rw [List.length_append]
    exact own_same ho fun k hk _ => by
      cases hk
      exact ho6 g hgb
  · refine own_same h0.list fun k hk hl => ?_
    obtain ⟨_, _, cur, hc⟩ := own_type h0.list k hk
    rw [ho6 k (tag_ne hc h0.box.row (by decide)), hg.block k hl (fun e => h.apart k e.symm hk)]
  · intro k e1 e2
    cases e1
    rcases hat with e | e
    · exact h.apart g e e2
    · have := (own_type h0.list g e2).1
      omega
theorem Lent.listed {base b gp g m c : Nat} {w wA w6 : World} {vp : Value} {ps : List Int} {F : List Lk} {KV LV XS : List Value} {vk vl : Value} (h : Lent base b gp w vp ps F KV LV vk vl) (hA : Below w.heap.size w wA) (hg : wA.grownBy w6 vl.ownBlock)
    (hat : vl.ownBlock = some g ∨ g = wA.heap.size) (ho : w6.ownsRow base 27 1 (.slice (some ⟨g, 0, none⟩) m c) (LV.length + XS.length) (LV ++ XS)) (hbase : base ≤ w.heap.size) :
    Lent base b gp (w6.setCell ⟨b, 4, none⟩ (.slice (some ⟨g, 0, none⟩) m c)) vp ps F KV (LV ++ XS) vk (.slice (some ⟨g, 0, none⟩) m c) ∧ KeepL base w (w6.setCell ⟨b, 4, none⟩ (.slice (some ⟨g, 0, none⟩) m c)) := by
  have h0 := h.here hA
  have hb6 : LBox w6 b (.slice none 0 0) (.slice none 0 0) vp vk vl := ⟨grown_typ h0.list hg _ _ _ _ (by decide) h0.box.row⟩
  have ho6 : ∀ k : Nat, k ≠ b → (w6.setCell ⟨b, 4, none⟩ (.slice (some ⟨g, 0, none⟩) m c)).heap[k]? = w6.heap[k]? := fun k hk => heap_set_other _ hk
  have hgb : g ≠ b := by
    obtain ⟨_, _, cur, hc⟩ := own_type ho g rfl
    exact tag_ne hc hb6.row (by decide)
  have hkp := keepL_put (i := 4) hA h0.list hg hb6 h.hb hbase (.slice (some ⟨g, 0, none⟩) m c)
  refine ⟨⟨⟨by rw [heap_set_same _ hb6.row]; rfl⟩, h.hb, h.pages.keep hkp, ?_, ?_, ?_, fun z hz => (h.ok z hz).keep hkp⟩, hkp⟩
  · refine own_same h0.keys fun k hk hl => ?_
    obtain ⟨_, _, cur, hc⟩ := own_type h0.keys k hk
    rw [ho6 k (tag_ne hc h0.box.row (by decide)), hg.block k hl (fun e => h.apart k hk e.symm)]
  · rw [List.length_append]
    exact own_same ho fun k hk _ => by
      cases hk
      exact ho6 g hgb
  · intro k e1 e2
    cases e2
    rcases hat with e | e
    · exact h.apart g e1 e
    · have := (own_type h0.keys g e1).1
      omega
/-- The Loan's block behind an append onto one of its rows. -/
theorem Lent.mid {base b gp : Nat} {w wA w6 : World} {vp : Value} {ps : List Int} {F : List Lk} {KV LV : List Value} {vk vl u : Value} (h : Lent base b gp w vp ps F KV LV vk vl) (hu : u = vk ∨ u = vl) (hA : Below w.heap.size w wA) (hg : wA.grownBy w6 u.ownBlock) :
    LBox w6 b (.slice none 0 0) (.slice none 0 0) vp vk vl := by
  have h0 := h.here hA
  rcases hu with rfl | rfl
  · exact ⟨grown_typ h0.keys hg _ _ _ _ (by decide) h0.box.row⟩
  · exact ⟨grown_typ h0.list hg _ _ _ _ (by decide) h0.box.row⟩

/-- What is lent. -/
def MarkFar (base : Nat) (m : Value) : Prop := ∃ g, m = .slice (some ⟨g, 0, none⟩) 4 4 ∧ base ≤ g
structure LoanAt (base : Nat) (w : World) (b : Nat) (vq : Value) (ps : List Int) (F : List Lk) : Prop where
  is : ∃ (gp gl cl : Nat) (vk m1 m2 : Value), vq = .agg #[.slice (some ⟨gp, 0, none⟩) ps.length (ps.length + 3), .slice (some ⟨gl, 0, none⟩) F.length cl] ∧
    LBox w b (.slice (some ⟨gp, 0, none⟩) ps.length (ps.length + 3)) (.slice (some ⟨gl, 0, none⟩) F.length cl) (.slice (some ⟨gp, 0, none⟩) (ps.length + 3) (ps.length + 3)) vk (.slice (some ⟨gl, 0, none⟩) (F.length + 2) cl) ∧ (base ≤ b ∧ MarkFar base m1 ∧ MarkFar base m2) ∧
    IRow base w gp (ps ++ [-9, -9, -9]) ∧ w.ownsRow base 27 1 vk F.length (F.map Lk.kv) ∧ w.ownsRow base 27 1 (.slice (some ⟨gl, 0, none⟩) (F.length + 2) cl) (F.length + 2) (F.map Lk.lv ++ [m1, m2]) ∧
    (∀ z ∈ F, z.Ok base w) ∧ (F.map Lk.g).Nodup ∧ KeyAt w m1 markK ∧ KeyAt w m2 markK
theorem LoanAt.here {base b : Nat} {w w' : World} {vq : Value} {ps : List Int} {F : List Lk} (h : LoanAt base w b vq ps F) (hb : Below w.heap.size w w') : LoanAt base w' b vq ps F := by
  obtain ⟨gp, gl, cl, vk, m1, m2, h1, h2, h3, h4, h5, h6, h7, h8, h9, h10⟩ := h.is
  exact ⟨gp, gl, cl, vk, m1, m2, h1, h2.here hb, h3, h4.here hb, own_same h5 fun k _ hl => hb.block k hl, own_same h6 fun k _ hl => hb.block k hl, fun z hz => (h7 z hz).here hb, h8, h9.here hb, h10.here hb⟩
theorem KeyAt.far {base : Nat} {w w' : World} {m : Value} (h : KeyAt w m markK) (hf : MarkFar base m) (hs : ∀ k, base ≤ k → k < w.heap.size → w'.heap[k]? = w.heap[k]?) : KeyAt w' m markK := by
  obtain ⟨g, rfl, hg⟩ := hf
  obtain ⟨a, c, e, hb, hc⟩ := h.is
  refine ⟨⟨a, c, e, fun j x hj => ?_, hc⟩, h.short⟩
  simp only [Value.slice.injEq] at e
  obtain ⟨rfl, _, _⟩ := e
  obtain ⟨g', off, e1, h1, h2⟩ := hb j x hj
  cases e1
  have e2 := hs g hg h1
  refine ⟨g, 0, rfl, ?_, ?_⟩
  · exact (Array.getElem?_eq_some_iff.1 (e2.trans (Array.getElem?_eq_getElem h1))).1
  · rw [← h2]; simp only [World.cell?, e2]
theorem LoanAt.move {base b : Nat} {w w' : World} {vq : Value} {ps : List Int} {F : List Lk} (h : LoanAt base w b vq ps F) (hs : ∀ k, base ≤ k → k < w.heap.size → w'.heap[k]? = w.heap[k]?) : LoanAt base w' b vq ps F := by
  obtain ⟨gp, gl, cl, vk, m1, m2, h1, h2, h3, h4, h5, h6, h7, h8, h9, h10⟩ := h.is
  exact ⟨gp, gl, cl, vk, m1, m2, h1, ⟨(hs _ h3.1 h2.lt).trans h2.row⟩, h3, ⟨h4.lo, (hs _ h4.lo h4.lt).trans h4.row⟩, own_same h5 fun k hk hl => hs k (own_type h5 k hk).2.1 hl, own_same h6 fun k hk hl => hs k (own_type h6 k hk).2.1 hl, fun z hz => ⟨(h7 z hz).lo, (hs _ (h7 z hz).lo (h7 z hz).lt).trans (h7 z hz).row, (h7 z hz).short⟩, h8, h9.far h3.2.1 hs, h10.far h3.2.2 hs⟩
/-- A world as far as a border. -/
def upto (w : World) (top : Nat) : World := { w with heap := w.heap.extract 0 top }
theorem upto_at (w : World) {top k : Nat} (hk : k < top) : (upto w top).heap[k]? = w.heap[k]? := by
  show (w.heap.extract 0 top)[k]? = _
  rw [Array.getElem?_extract]
  by_cases h : k < w.heap.size
  · rw [if_pos (by omega), Nat.zero_add]
  · rw [if_neg (by omega), Array.getElem?_eq_none (by omega)]
theorem upto_size (w : World) {top : Nat} (ht : top ≤ w.heap.size) : (upto w top).heap.size = top := by
  show (w.heap.extract 0 top).size = _
  rw [Array.size_extract]
  omega
theorem upto_below (w : World) {top : Nat} (ht : top ≤ w.heap.size) : Below top (upto w top) w := ⟨rfl, rfl, rfl, by rw [upto_size w ht]; exact ht, fun k hk => (upto_at w hk).symm⟩
end Go.Proofs.Ytaehchijeinloaa
