/- The greatest of several: slices.MaxFunc over weights. -/
import Derived.Test.YtejenfcfngjaaaaCands
namespace Go.Proofs.Ytejenfcfngjaaaa
open Go.RowKit

theorem wt_at {W : List Int} {i : Nat} {e : Int} (h : W[i]? = some e) : wt W (i : Int) = e := by
  unfold wt
  rw [Int.toNat_natCast, List.getD_eq_getElem?_getD, h]
  rfl
/-- Weights that a closure has captured: a cell that holds their slice. -/
structure CellW (w : World) (b : Nat) (v : Value) (W : List Int) : Prop where
  cell : w.cell? ⟨b, 0, none⟩ = some v
  row : IntsAt w v W
  lt : b < w.heap.size
theorem CellW.here {w w' : World} {b : Nat} {v : Value} {W : List Int} (h : CellW w b v W) (hb : Below w.heap.size w w') : CellW w' b v W :=
  ⟨(hb.cell (p := ⟨b, 0, none⟩) h.lt).trans h.cell, h.row.here hb, Nat.lt_of_lt_of_le h.lt hb.size⟩
set_option maxHeartbeats 800000 in
set_option maxRecDepth 100000 in
theorem heavier_any {w : World} {b : Nat} {v : Value} {W : List Int} {i j : Nat} (h : CellW w b v W) (hi : i < W.length) (hj : j < W.length) :
    Calls Try.prog 29 #[.int .i64 (i : Int), .int .i64 (j : Int), .pointer (some ⟨b, 0, none⟩)] w fun e w' => e = .returned (.int .i64 (cmpI (wt W i) (wt W j))) ∧ ∃ n, w' = w.drewN n := by
  obtain ⟨x, hx⟩ : ∃ x, W[i]? = some x := ⟨_, List.getElem?_eq_getElem hi⟩
  obtain ⟨y, hy⟩ : ∃ y, W[j]? = some y := ⟨_, List.getElem?_eq_getElem hj⟩
  rw [wt_at hx, wt_at hy]
  obtain ⟨a, c, rfl⟩ := h.row.form
  obtain ⟨g, off, rfl, hg, k0⟩ := ints_cell h.row hx
  obtain ⟨g', off', e', _, k1⟩ := ints_cell h.row hy
  cases e'
  have hc := h.cell
  have hiz : (i : Int) < (W.length : Int) := by omega
  have hjz : (j : Int) < (W.length : Int) := by omega
  clear h hx hy
  go_enter Try.func29, Try.ntmps29
  go_wp2_with fail
  go_quiet ((go_at_call 30; exact Calls.quiet_of_same (compare_any _ _ _)))
  go_wp2_with fail
  go_ret
  exact ⟨rfl, _, rfl⟩
end Go.Proofs.Ytejenfcfngjaaaa
