/- lend. -/
import Derived.Test.YtgifnaahahfhbaaLend
import Derived.Deep.AppendLies
namespace Go.Proofs.Ytgifnaahahfhbaa
open Go.RowKit

/-- What is lent of an entry: its key and its value, with marks behind them. -/
structure Ln where
  kv : Value
  vv : Value
  e : En
def less2 : Value → Value
  | .slice a n c => .slice a (n - 2) c
  | v => v
def Ln.it (z : Ln) : It := ⟨less2 z.kv, less2 z.vv, z.e⟩
structure Ln.Ok (base : Nat) (w : World) (z : Ln) : Prop where
  k : NewKey base w z.kv (z.e.k ++ ends2)
  v : NewKey base w z.vv (z.e.v ++ ends2)
def noIt : It := ⟨.slice none 0 0, .slice none 0 0, ⟨[], []⟩⟩
structure LBox (w : World) (b : Nat) (x y z : Value) : Prop where
  row : w.heap[b]? = some (.cells #[x, y, z] 33 (0, 0))
theorem LBox.lt {w : World} {b : Nat} {x y z : Value} (h : LBox w b x y z) : b < w.heap.size := (Array.getElem?_eq_some_iff.1 h.row).1
theorem LBox.cells {w : World} {b : Nat} {x y z : Value} (h : LBox w b x y z) : w.cell? ⟨b, 0, none⟩ = some x ∧ w.cell? ⟨b, 1, none⟩ = some y ∧ w.cell? ⟨b, 2, none⟩ = some z :=
  ⟨by rw [row_cell h.row]; rfl, by rw [row_cell h.row]; rfl, by rw [row_cell h.row]; rfl⟩
theorem LBox.open {w : World} {b : Nat} {x y z : Value} (h : LBox w b x y z) : w.frozen? ⟨b, 0, none⟩ = false ∧ w.frozen? ⟨b, 1, none⟩ = false ∧ w.frozen? ⟨b, 2, none⟩ = false :=
  ⟨row_frozen h.row _, row_frozen h.row _, row_frozen h.row _⟩
theorem LBox.here {w w' : World} {b : Nat} {x y z : Value} (h : LBox w b x y z) (hb : Below w.heap.size w w') : LBox w' b x y z := ⟨by rw [hb.block b h.lt]; exact h.row⟩
theorem LBox.keep {T B : Nat} {w w' : World} {b : Nat} {x y z : Value} (h : LBox w b x y z) (hk : Keep T B w w') (hT : 33 ≠ T) : LBox w' b x y z := ⟨hk.typ _ _ _ _ hT h.row⟩
theorem RowAt.keep {T B : Nat} {w w' : World} {g S : Nat} {D : List It} (h : RowAt w g S D) (hk : Keep T B w w') (hT : 47 ≠ T) : RowAt w' g S D := by
  obtain ⟨cur, h1, h2⟩ := h.is
  exact ⟨cur, hk.typ _ _ _ _ hT h1, h2⟩
theorem Ln.Ok.here {base : Nat} {w w' : World} {z : Ln} (h : z.Ok base w) (hb : Below w.heap.size w w') : z.Ok base w' := ⟨h.k.here hb, h.v.here hb⟩
theorem Ln.Ok.keep {base T B : Nat} {w w' : World} {z : Ln} (h : z.Ok base w) (hk : Keep T B w w') (hT : 5 ≠ T) : z.Ok base w' := ⟨h.k.keep hk hT, h.v.keep hk hT⟩

/-- All below a border stays, and all bytes. -/
structure Touch (base : Nat) (w w' : World) : Prop where
  low : Below base w w'
  u8 : ∀ (k : Nat) (cur : Array Value) z, w.heap[k]? = some (Obj.cells cur 5 z) → w'.heap[k]? = some (Obj.cells cur 5 z)
theorem NewKey.touch {base B : Nat} {w w' : World} {v : Value} {ks : Key} (h : NewKey base w v ks) (hk : Touch B w w') : NewKey base w' v ks :=
  ⟨own_same h.1 fun b hb _ => by
    obtain ⟨_, _, cur, hc⟩ := own_type h.1 b hb
    rw [hc]; exact hk.u8 _ _ _ hc, h.2⟩
theorem Ln.Ok.touch {base B : Nat} {w w' : World} {z : Ln} (h : z.Ok base w) (hk : Touch B w w') : z.Ok base w' := ⟨h.k.touch hk, h.v.touch hk⟩

/-- While entries are lent: the result's cell r, the Loan's b, the list's row gl. -/
structure Lent (base r b gl n : Nat) (w : World) (D : List It) (KV VV : List Value) (vk vv : Value) : Prop where
  res : LBox w r (.slice none 0 0) (.slice none 0 0) (.slice none 0 0)
  box : LBox w b (.slice (some ⟨gl, 0, none⟩) n n) vk vv
  ne : r ≠ b
  hb : base ≤ b
  hgl : base ≤ gl
  row : RowAt w gl (n * 2) D
  keys : w.ownsRow base 39 1 vk KV.length KV
  vals : w.ownsRow base 39 1 vv VV.length VV
  apart : ∀ g, vk.ownBlock = some g → vv.ownBlock ≠ some g
theorem Lent.here {base r b gl n : Nat} {w w' : World} {D : List It} {KV VV : List Value} {vk vv : Value} (h : Lent base r b gl n w D KV VV vk vv) (hb : Below w.heap.size w w') : Lent base r b gl n w' D KV VV vk vv :=
  ⟨h.res.here hb, h.box.here hb, h.ne, h.hb, h.hgl, h.row.here hb, own_same h.keys fun k _ hl => hb.block k hl, own_same h.vals fun k _ hl => hb.block k hl, h.apart⟩
/-- One key more. -/
theorem Lent.keyed {base r b gl n g m c : Nat} {w wA w6 : World} {D : List It} {KV VV : List Value} {vk vv x : Value} (h : Lent base r b gl n w D KV VV vk vv) (hA : Below w.heap.size w wA) (hg : wA.grownBy w6 vk.ownBlock)
    (hat : vk.ownBlock = some g ∨ g = wA.heap.size) (ho : w6.ownsRow base 39 1 (.slice (some ⟨g, 0, none⟩) m c) (KV.length + 1) (KV ++ [x])) (hbase : base ≤ w.heap.size) :
    Lent base r b gl n (w6.setCell ⟨b, 1, none⟩ (.slice (some ⟨g, 0, none⟩) m c)) D (KV ++ [x]) VV (.slice (some ⟨g, 0, none⟩) m c) vv ∧ Touch base w (w6.setCell ⟨b, 1, none⟩ (.slice (some ⟨g, 0, none⟩) m c)) := by
  have h0 := h.here hA
  have hsA := hA.size
  have nk : ∀ (k : Nat) (cur : Array Value) (t : TypeId) (z : Nat × Nat), t ≠ 39 → wA.heap[k]? = some (Obj.cells cur t z) → w6.heap[k]? = some (Obj.cells cur t z) := fun k cur t z ht hk => by
    rw [hg.block k (Array.getElem?_eq_some_iff.1 hk).1 (fun e => by
      obtain ⟨_, _, cur', h'⟩ := own_type h0.keys k e.symm
      exact tag_ne hk h' ht rfl)]
    exact hk
  have hb6 : LBox w6 b (.slice (some ⟨gl, 0, none⟩) n n) vk vv := ⟨nk _ _ _ _ (by decide) h0.box.row⟩
  have ho6 : ∀ k : Nat, k ≠ b → (w6.setCell ⟨b, 1, none⟩ (.slice (some ⟨g, 0, none⟩) m c)).heap[k]? = w6.heap[k]? := fun k hk => heap_set_other _ hk
  have hgb : g ≠ b := by
    obtain ⟨_, _, cur, hc⟩ := own_type ho g rfl
    exact tag_ne hc hb6.row (by decide)
  have hlow : Below base w w6 := (hA.mono hbase).trans ((Below.refl _ _).grown hg (Nat.le_trans hbase hsA) (fun k e => (own_type h0.keys k e).2.1))
  refine ⟨⟨⟨?_⟩, ⟨?_⟩, h.ne, h.hb, h.hgl, ?_, ?_, ?_, ?_⟩, ?_, ?_⟩
  · rw [ho6 r h.ne]; exact nk _ _ _ _ (by decide) h0.res.row
  · rw [heap_set_same _ hb6.row]; rfl
  · obtain ⟨cur, h1, h2⟩ := h0.row.is
    have h3 := nk _ _ _ _ (by decide) h1
    exact ⟨cur, by rw [ho6 gl (tag_ne h3 hb6.row (by decide))]; exact h3, h2⟩
  · rw [List.length_append]
    exact own_same ho fun k hk _ => by
      cases hk
      exact ho6 g hgb
  · refine own_same h0.vals fun k hk hl => ?_
    obtain ⟨_, _, cur, hc⟩ := own_type h0.vals k hk
    rw [ho6 k (tag_ne hc h0.box.row (by decide)), hg.block k hl (fun e => h.apart k e.symm hk)]
  · intro k e1 e2
    cases e1
    rcases hat with e | e
    · exact h.apart g e e2
    · have := (own_type h0.vals g e2).1
      omega
  · refine hlow.trans ⟨rfl, rfl, rfl, by simp, fun k hk => ho6 k (by have := h.hb; omega)⟩
  · intro k cur z hk
    have h1 : wA.heap[k]? = some (.cells cur 5 z) := by rw [hA.block k (Array.getElem?_eq_some_iff.1 hk).1]; exact hk
    have h2 := nk _ _ _ _ (by decide) h1
    rw [ho6 k (tag_ne h2 hb6.row (by decide))]
    exact h2
/-- One value more. -/
theorem Lent.valued {base r b gl n g m c : Nat} {w wA w6 : World} {D : List It} {KV VV : List Value} {vk vv x : Value} (h : Lent base r b gl n w D KV VV vk vv) (hA : Below w.heap.size w wA) (hg : wA.grownBy w6 vv.ownBlock)
    (hat : vv.ownBlock = some g ∨ g = wA.heap.size) (ho : w6.ownsRow base 39 1 (.slice (some ⟨g, 0, none⟩) m c) (VV.length + 1) (VV ++ [x])) (hbase : base ≤ w.heap.size) :
    Lent base r b gl n (w6.setCell ⟨b, 2, none⟩ (.slice (some ⟨g, 0, none⟩) m c)) D KV (VV ++ [x]) vk (.slice (some ⟨g, 0, none⟩) m c) ∧ Touch base w (w6.setCell ⟨b, 2, none⟩ (.slice (some ⟨g, 0, none⟩) m c)) := by
  have h0 := h.here hA
  have hsA := hA.size
  have nk : ∀ (k : Nat) (cur : Array Value) (t : TypeId) (z : Nat × Nat), t ≠ 39 → wA.heap[k]? = some (Obj.cells cur t z) → w6.heap[k]? = some (Obj.cells cur t z) := fun k cur t z ht hk => by
    rw [hg.block k (Array.getElem?_eq_some_iff.1 hk).1 (fun e => by
      obtain ⟨_, _, cur', h'⟩ := own_type h0.vals k e.symm
      exact tag_ne hk h' ht rfl)]
    exact hk
  have hb6 : LBox w6 b (.slice (some ⟨gl, 0, none⟩) n n) vk vv := ⟨nk _ _ _ _ (by decide) h0.box.row⟩
  have ho6 : ∀ k : Nat, k ≠ b → (w6.setCell ⟨b, 2, none⟩ (.slice (some ⟨g, 0, none⟩) m c)).heap[k]? = w6.heap[k]? := fun k hk => heap_set_other _ hk
  have hgb : g ≠ b := by
    obtain ⟨_, _, cur, hc⟩ := own_type ho g rfl
    exact tag_ne hc hb6.row (by decide)
  have hlow : Below base w w6 := (hA.mono hbase).trans ((Below.refl _ _).grown hg (Nat.le_trans hbase hsA) (fun k e => (own_type h0.vals k e).2.1))
  refine ⟨⟨⟨?_⟩, ⟨?_⟩, h.ne, h.hb, h.hgl, ?_, ?_, ?_, ?_⟩, ?_, ?_⟩
  · rw [ho6 r h.ne]; exact nk _ _ _ _ (by decide) h0.res.row
  · rw [heap_set_same _ hb6.row]; rfl
  · obtain ⟨cur, h1, h2⟩ := h0.row.is
    have h3 := nk _ _ _ _ (by decide) h1
    exact ⟨cur, by rw [ho6 gl (tag_ne h3 hb6.row (by decide))]; exact h3, h2⟩
  · refine own_same h0.keys fun k hk hl => ?_
    obtain ⟨_, _, cur, hc⟩ := own_type h0.keys k hk
    rw [ho6 k (tag_ne hc h0.box.row (by decide)), hg.block k hl (fun e => h.apart k hk e.symm)]
  · rw [List.length_append]
    exact own_same ho fun k hk _ => by
      cases hk
      exact ho6 g hgb
  · intro k e1 e2
    cases e2
    rcases hat with e | e
    · exact h.apart g e1 e
    · have := (own_type h0.keys g e1).1
      omega
  · refine hlow.trans ⟨rfl, rfl, rfl, by simp, fun k hk => ho6 k (by have := h.hb; omega)⟩
  · intro k cur z hk
    have h1 : wA.heap[k]? = some (.cells cur 5 z) := by rw [hA.block k (Array.getElem?_eq_some_iff.1 hk).1]; exact hk
    have h2 := nk _ _ _ _ (by decide) h1
    rw [ho6 k (tag_ne h2 hb6.row (by decide))]
    exact h2
theorem Lent.mid {base r b gl n : Nat} {w wA w6 : World} {D : List It} {KV VV : List Value} {vk vv u : Value} (h : Lent base r b gl n w D KV VV vk vv) (hu : u = vk ∨ u = vv) (hA : Below w.heap.size w wA) (hg : wA.grownBy w6 u.ownBlock) :
    LBox w6 b (.slice (some ⟨gl, 0, none⟩) n n) vk vv := by
  have h0 := h.here hA
  refine ⟨?_⟩
  rw [hg.block b h0.box.lt (fun e => by
    rcases hu with rfl | rfl
    · obtain ⟨_, _, cur', h'⟩ := own_type h0.keys b e.symm
      exact tag_ne h0.box.row h' (by decide) rfl
    · obtain ⟨_, _, cur', h'⟩ := own_type h0.vals b e.symm
      exact tag_ne h0.box.row h' (by decide) rfl)]
  exact h0.box.row
/-- An entry written. -/
theorem Lent.wrote {base r b gl n : Nat} {w : World} {D : List It} {KV VV : List Value} {vk vv : Value} (h : Lent base r b gl n w D KV VV vk vv) (i : Nat) (y : It) (hi : i < D.length) :
    Lent base r b gl n (putAt w gl i y) (D.set i y) KV VV vk vv ∧ Touch base w (putAt w gl i y) := by
  obtain ⟨cur, h1, _⟩ := id h.row.is
  have ho : ∀ k : Nat, k ≠ gl → (putAt w gl i y).heap[k]? = w.heap[k]? := fun k hk => by
    unfold putAt
    rw [heap_set_other _ hk, heap_set_other _ hk]
  have hty : ∀ (k : Nat) (cur' : Array Value) (t : TypeId) (z : Nat × Nat), t ≠ 47 → w.heap[k]? = some (Obj.cells cur' t z) → (putAt w gl i y).heap[k]? = some (Obj.cells cur' t z) := fun k cur' t z ht hk => by
    rw [ho k (tag_ne hk h1 ht)]; exact hk
  refine ⟨⟨⟨hty _ _ _ _ (by decide) h.res.row⟩, ⟨hty _ _ _ _ (by decide) h.box.row⟩, h.ne, h.hb, h.hgl, h.row.put i y hi, ?_, ?_, h.apart⟩, ⟨rfl, rfl, rfl, by simp [putAt], fun k hk => ho k (by have := h.hgl; omega)⟩, fun k cur' z hk => hty _ _ _ _ (by decide) hk⟩
  · exact own_same h.keys fun k hk _ => by
      obtain ⟨_, _, cur', hc⟩ := own_type h.keys k hk
      rw [hc]; exact hty _ _ _ _ (by decide) hc
  · exact own_same h.vals fun k hk _ => by
      obtain ⟨_, _, cur', hc⟩ := own_type h.vals k hk
      rw [hc]; exact hty _ _ _ _ (by decide) hc

theorem flat_none (n : Nat) : flat (List.replicate n noIt) = List.replicate (n * 2) (.slice none 0 0) := by
  induction n with
  | zero => rfl
  | succ n ih =>
    rw [List.replicate_succ, show (n + 1) * 2 = n * 2 + 1 + 1 by omega, List.replicate_succ, List.replicate_succ, ← ih]
    rfl
theorem madeEnts (n : Nat) : (madeCells (Value.cells (.agg #[.slice none 0 0, .slice none 0 0])) (n * 2)).toList = flat (List.replicate n noIt) := by
  rw [flat_none]
  simp only [madeCells, Value.cells]
  apply List.ext_getElem
  · simp
  · intro i h1 h2
    have h3 : i % 2 = 0 ∨ i % 2 = 1 := by omega
    rcases h3 with h3 | h3 <;> simp [h3]
/-- What is lent. -/
structure LoanAt (base : Nat) (w : World) (v : Value) (l : List En) : Prop where
  is : ∃ (gl : Nat) (vk vv : Value) (Z : List Ln) (y1 y2 : It), v = .agg #[.slice (some ⟨gl, 0, none⟩) (l.length + 2) (l.length + 2), vk, vv] ∧ Z.map Ln.e = l ∧ RowAt w gl ((l.length + 2) * 2) (Z.map Ln.it ++ [y1, y2]) ∧
    w.ownsRow base 39 1 vk Z.length (Z.map Ln.kv) ∧ w.ownsRow base 39 1 vv Z.length (Z.map Ln.vv) ∧ (∀ z ∈ Z, z.Ok base w) ∧ NewKey 0 w y1.v1 [1] ∧ NewKey 0 w y2.v1 [2]

theorem infoBytes : (Try.prog.info? 39).map (fun i => (i.zero, i.size, i.bytes)) = some (some (.slice none 0 0), 1, 24) := by kernel_rfl
theorem infoBytes' : ∃ i, Try.prog.info? 39 = some i ∧ i.zero = some (.slice none 0 0) ∧ i.size = 1 ∧ i.bytes = 24 := by
  have h := infoBytes
  cases hi : Try.prog.info? 39 with
  | none => rw [hi] at h; simp at h
  | some i => rw [hi] at h; simp at h; exact ⟨i, rfl, h⟩
theorem slice_one (a : Option Addr) (n c : Nat) : ∀ u ∈ [Value.slice a n c], u.oneCell' = true := fun u hu => by simp at hu; rw [hu]; rfl
theorem one_src (w : World) (x : Value) (j : Nat) (u : Value) (hj : [x][j]? = some u) : (w.alloc (.cells #[x] 39)).cell? ((⟨w.heap.size, 0, none⟩ : Addr).add j) = some u := by
  rw [add_at, row_cell (heap_alloc_last w _)]
  simpa using hj
/-- While entries are lent: the first m are. -/
structure Lending (base r b gl : Nat) (w wx : World) (L : List It) (m : Nat) (Z : List Ln) (vk vv : Value) : Prop where
  lent : Lent base r b gl (L.length + 2) wx (Z.map Ln.it ++ List.replicate (L.length + 2 - m) noIt) (Z.map Ln.kv) (Z.map Ln.vv) vk vv
  is : Z.map Ln.e = (L.map It.e).take m
  len : Z.length = m
  ok : ∀ z ∈ Z, z.Ok base wx
  low : Below base w wx
end Go.Proofs.Ytgifnaahahfhbaa
