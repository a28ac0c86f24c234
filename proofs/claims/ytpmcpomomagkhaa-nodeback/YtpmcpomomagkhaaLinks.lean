/- Keys and ranges as branch's texts have them, and as msg's; nodes in memory. -/
import Derived.Test.YtpmcpomomagkhaaNode
import Derived.Test.YtpmcpomomagkhaaDecode
namespace Go.Proofs.Ytpmcpomomagkhaa
open Go.RowKit

theorem toBr {w : World} {v : Value} {k : Key} (h : KeyAt w v k) : Br.KeyAt w v k := ⟨h.is, h.short⟩
theorem ofBr {w : World} {v : Value} {k : Key} (h : Br.KeyAt w v k) : KeyAt w v k := ⟨h.is, h.short⟩
theorem toBrIn {B : Nat} {w : World} {v : Value} {k : Key} (h : KeyIn B w v k) : Br.KeyIn B w v k := ⟨h.is, h.short⟩
theorem ofBrIn {B : Nat} {w : World} {v : Value} {k : Key} (h : Br.KeyIn B w v k) : KeyIn B w v k := ⟨h.is, h.short⟩
theorem toBrNew {base : Nat} {w : World} {v : Value} {k : Key} (h : NewKey base w v k) : Br.NewKey base w v k := ⟨h.1, h.2⟩
theorem ofBrNew {base : Nat} {w : World} {v : Value} {k : Key} (h : Br.NewKey base w v k) : NewKey base w v k := ⟨h.1, h.2⟩
theorem toBrR {w : World} {v : Value} {r : Rg} (h : RangeAt w v r) : Br.RangeAt w v r := by
  obtain ⟨v1, v2, e, h1, h2⟩ := h.is
  exact ⟨v1, v2, e, toBr h1, toBr h2⟩
theorem toBrKeep {T : TypeId} {B : Nat} {w w' : World} (h : Keep T B w w') : Br.Keep T B w w' := ⟨h.low, h.typ⟩
theorem ofBrKeep {T : TypeId} {B : Nat} {w w' : World} (h : Br.Keep T B w w') : Keep T B w w' := ⟨h.low, h.typ⟩
/-- A node in memory. -/
structure NodeAt (B : Nat) (w : World) (v : Value) (ps : List Int) (K : List Br.Kc) (M : List Mt) : Prop where
  is : ∃ vp vk vm, v = .agg #[vp, vk, vm] ∧ Br.IntsAt B w vp ps ∧ Br.KeysAt B w vk K ∧ MsgsAt B w vm M
theorem NodeAt.here {w w' : World} {v : Value} {ps : List Int} {K : List Br.Kc} {M : List Mt} (h : NodeAt w.heap.size w v ps K M) (hb : Below w.heap.size w w') : NodeAt w'.heap.size w' v ps K M := by
  obtain ⟨vp, vk, vm, e, h1, h2, h3⟩ := h.is
  exact ⟨vp, vk, vm, e, h1.here hb, h2.here hb, h3.here hb⟩
def nd (ps : List Int) (K : List Br.Kc) (M : List Mt) : Nd := ⟨Br.kd ps K, msOf M⟩
/-- A block that holds a node; one that holds a node that is worked on. -/
structure NBox (w : World) (b : Nat) (x y z : Value) : Prop where
  row : w.heap[b]? = some (.cells #[x, y, z] 31 (0, 0))
theorem NBox.lt {w : World} {b : Nat} {x y z : Value} (h : NBox w b x y z) : b < w.heap.size := (Array.getElem?_eq_some_iff.1 h.row).1
theorem NBox.here {w w' : World} {b : Nat} {x y z : Value} (h : NBox w b x y z) (hb : Below w.heap.size w w') : NBox w' b x y z := ⟨by rw [hb.block b h.lt]; exact h.row⟩
theorem NBox.new (w : World) (x y z : Value) : NBox (w.alloc (.cells #[x, y, z] 31)) w.heap.size x y z := ⟨heap_alloc_last _ _⟩
theorem NBox.keep {T B : Nat} {w w' : World} {b : Nat} {x y z : Value} (h : NBox w b x y z) (hk : Keep T B w w') (hT : 31 ≠ T) : NBox w' b x y z := ⟨hk.typ _ _ _ _ hT h.row⟩
theorem NBox.cells {w : World} {b : Nat} {x y z : Value} (h : NBox w b x y z) : w.cell? ⟨b, 0, none⟩ = some x ∧ w.cell? ⟨b, 1, none⟩ = some y ∧ w.cell? ⟨b, 2, none⟩ = some z :=
  ⟨by rw [row_cell h.row]; rfl, by rw [row_cell h.row]; rfl, by rw [row_cell h.row]; rfl⟩
structure PBox (w : World) (b : Nat) (x y z u : Value) : Prop where
  row : w.heap[b]? = some (.cells #[x, y, z, u] 58 (0, 0))
theorem PBox.lt {w : World} {b : Nat} {x y z u : Value} (h : PBox w b x y z u) : b < w.heap.size := (Array.getElem?_eq_some_iff.1 h.row).1
theorem PBox.here {w w' : World} {b : Nat} {x y z u : Value} (h : PBox w b x y z u) (hb : Below w.heap.size w w') : PBox w' b x y z u := ⟨by rw [hb.block b h.lt]; exact h.row⟩
theorem PBox.new (w : World) (x y z u : Value) : PBox (w.alloc (.cells #[x, y, z, u] 58)) w.heap.size x y z u := ⟨heap_alloc_last _ _⟩
theorem PBox.cells {w : World} {b : Nat} {x y z u : Value} (h : PBox w b x y z u) : w.cell? ⟨b, 0, none⟩ = some x ∧ w.cell? ⟨b, 1, none⟩ = some y ∧ w.cell? ⟨b, 2, none⟩ = some z ∧ w.cell? ⟨b, 3, none⟩ = some u :=
  ⟨by rw [row_cell h.row]; rfl, by rw [row_cell h.row]; rfl, by rw [row_cell h.row]; rfl, by rw [row_cell h.row]; rfl⟩
theorem PBox.open {w : World} {b : Nat} {x y z u : Value} (h : PBox w b x y z u) (i : Nat) : w.frozen? ⟨b, i, none⟩ = false := row_frozen h.row i
theorem PBox.set3 {w : World} {b : Nat} {x y z u : Value} (h : PBox w b x y z u) (u' : Value) : PBox (w.setCell ⟨b, 3, none⟩ u') b x y z u' := ⟨heap_set_same u' h.row⟩
theorem PBox.keep {T B : Nat} {w w' : World} {b : Nat} {x y z u : Value} (h : PBox w b x y z u) (hk : Keep T B w w') (hT : 58 ≠ T) : PBox w' b x y z u := ⟨hk.typ _ _ _ _ hT h.row⟩
end Go.Proofs.Ytpmcpomomagkhaa
