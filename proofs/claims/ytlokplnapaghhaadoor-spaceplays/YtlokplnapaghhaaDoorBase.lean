/- The memory of a space; the table of math/bits; what stays; the smallest functions. -/
import Derived.Test.YtlokplnapaghhaaDoorProg
import Derived.Test.YtlokplnapaghhaaDoorSp
import Derived.WalkKit
import Derived.KernelRfl
import Derived.Deep.WholeRow
import Derived.Deep.MidRow
import Derived.Laws.BitsAllLaws
import Derived.Lib.TrailingZeros
import Derived.Deep.QuietTactic
import Derived.BigQuiet
namespace Go.Proofs.YtlokplnapaghhaaDoor
open Go.RowKit

theorem ret_int {k : IntKind} {a b : Int} (h : a = b) : Ending.returned (.int k a) = .returned (.int k b) := by rw [h]
theorem word_lt (x : BitVec 64) : x.toNat < 18446744073709551616 := x.isLt
theorem xor64 (x y : BitVec 64) : bits .xor .u64 (x.toNat : Int) (y.toNat : Int) = ((x ^^^ y).toNat : Int) := by
  rw [u64_xor_nat _ _ (word_lt x) (word_lt y), BitVec.toNat_xor]
theorem and64 (x y : BitVec 64) : bits .and .u64 (x.toNat : Int) (y.toNat : Int) = ((x &&& y).toNat : Int) := by
  rw [u64_and_nat _ _ (word_lt x) (word_lt y), BitVec.toNat_and]
theorem wrap64u (n : Int) : IntKind.u64.wrap n = n % 18446744073709551616 := by simp [IntKind.wrap, IntKind.bits, IntKind.signed]

def word (f : Ws) (i : Nat) : Value := .int .u64 ((f i).toNat : Int)
def cellsS (s : Sp) : Array Value := (Value.int .i64 (s.n : Int) :: (List.range 1024).map (word s.f)).toArray
theorem cellsS_size (s : Sp) : (cellsS s).size = 1025 := by simp [cellsS]
theorem cellsS_zero (s : Sp) : (cellsS s)[0]? = some (.int .i64 (s.n : Int)) := by simp [cellsS]
theorem cellsS_at (s : Sp) (i : Nat) (h : i < 1024) : (cellsS s)[1 + i]? = some (.int .u64 ((s.f i).toNat : Int)) := by
  rw [Nat.add_comm]; simp [cellsS, h, word]
theorem cellsS_turn (s : Sp) (k : Nat) (hk : k < 65536) : (cellsS s).setIfInBounds (1 + k / 64) (.int .u64 ((s.f (k / 64) ^^^ (1#64 <<< (k % 64))).toNat : Int)) = cellsS (s.turn k) := by
  apply Array.ext_getElem?
  intro j
  rw [Array.getElem?_setIfInBounds]
  by_cases e : 1 + k / 64 = j
  · subst e
    rw [if_pos rfl, if_pos (by rw [cellsS_size]; omega), cellsS_at _ _ (by omega)]
    simp [Sp.turn, turnW]
  · rw [if_neg e]
    rcases j with _ | j
    · rw [cellsS_zero, cellsS_zero]; rfl
    · by_cases hj : j < 1024
      · rw [Nat.add_comm j 1, cellsS_at _ _ hj, cellsS_at _ _ hj]
        simp only [Sp.turn, turnW]
        rw [if_neg (by omega)]
      · rw [Array.getElem?_eq_none (by rw [cellsS_size]; omega), Array.getElem?_eq_none (by rw [cellsS_size]; omega)]

/-- Nothing that was there has changed but for what S says. -/
structure Kept (S : Nat → Prop) (w w' : World) : Prop where
  os : w'.os = w.os
  tape : w'.tape = w.tape
  output : w'.output = w.output
  size : w.heap.size ≤ w'.heap.size
  block : ∀ k, k < w.heap.size → ¬ S k → w'.heap[k]? = w.heap[k]?
theorem Kept.refl (S : Nat → Prop) (w : World) : Kept S w w := ⟨rfl, rfl, rfl, Nat.le_refl _, fun _ _ _ => rfl⟩
theorem Kept.of_below {S : Nat → Prop} {w w' : World} (h : Below w.heap.size w w') : Kept S w w' := ⟨h.os, h.tape, h.output, h.size, fun k hk _ => h.block k hk⟩
theorem Kept.of_grown {S : Nat → Prop} {w w' : World} {row : Option Nat} (h : w.grownBy w' row) (hr : ∀ k, row = some k → S k) : Kept S w w' :=
  ⟨h.os, h.tape, h.output, h.size, fun k hk hs => h.block k hk (fun e => hs (hr k e.symm))⟩
theorem Kept.trans {S T : Nat → Prop} {a b c : World} (h : Kept S a b) (k : Kept T b c) (hT : ∀ i, i < a.heap.size → T i → S i) : Kept S a c :=
  ⟨k.os.trans h.os, k.tape.trans h.tape, k.output.trans h.output, Nat.le_trans h.size k.size, fun i hi hs => (k.block i (Nat.lt_of_lt_of_le hi h.size) (fun ht => hs (hT i hi ht))).trans (h.block i hi hs)⟩
theorem Kept.mono {S T : Nat → Prop} {a b : World} (h : Kept S a b) (hT : ∀ i, i < a.heap.size → S i → T i) : Kept T a b :=
  ⟨h.os, h.tape, h.output, h.size, fun i hi hs => h.block i hi (fun x => hs (hT i hi x))⟩
theorem Kept.below {S : Nat → Prop} {B : Nat} {a b c : World} (h : Below B a b) (k : Kept S b c) (hB : B ≤ b.heap.size) (hS : ∀ i, S i → B ≤ i) : Below B a c :=
  ⟨k.os.trans h.os, k.tape.trans h.tape, k.output.trans h.output, Nat.le_trans h.size k.size, fun i hi => (k.block i (Nat.lt_of_lt_of_le hi hB) (fun x => by have := hS i x; omega)).trans (h.block i hi)⟩
theorem Kept.draws {S : Nat → Prop} {a b : World} (h : Kept S a b) (q : Nat) : Kept S a (b.drewN q) := ⟨h.os, h.tape, h.output, h.size, h.block⟩
theorem Kept.drew {S : Nat → Prop} {a b : World} (h : Kept S a b) : Kept S a b.drew := ⟨h.os, h.tape, h.output, h.size, h.block⟩

theorem row_cell {w : World} {b : Nat} {cur : Array Value} {t : TypeId} (h : w.heap[b]? = some (.cells cur t (0, 0))) (i : Nat) : w.cell? ⟨b, i, none⟩ = cur[i]? := by
  simp [World.cell?, h]
theorem row_frozen {w : World} {b : Nat} {cur : Array Value} {t : TypeId} (h : w.heap[b]? = some (.cells cur t (0, 0))) (i : Nat) : w.frozen? ⟨b, i, none⟩ = false := by
  simp [World.frozen?, h]
theorem heap_set_same {w : World} {b i : Nat} {cur : Array Value} {t : TypeId} (v : Value) (h : w.heap[b]? = some (.cells cur t (0, 0))) : (w.setCell ⟨b, i, none⟩ v).heap[b]? = some (.cells (cur.setIfInBounds i v) t (0, 0)) := heap_setCell_same w b i cur t v h
theorem setCell_kept {w : World} {b i : Nat} (v : Value) : Kept (fun k => k = b) w (w.setCell ⟨b, i, none⟩ v) :=
  ⟨rfl, rfl, rfl, by simp [World.setCell], fun k _ hk => by simp [World.setCell, Array.getElem?_modify, Ne.symm hk]⟩

/-- The space of a block. -/
structure SpaceAt (w : World) (b : Nat) (s : Sp) : Prop where
  cells : w.heap[b]? = some (.cells (cellsS s) 61 (0, 0))
  ok : s.Ok
theorem SpaceAt.lt {w : World} {b : Nat} {s : Sp} (h : SpaceAt w b s) : b < w.heap.size := (Array.getElem?_eq_some_iff.1 h.cells).1
theorem SpaceAt.count {w : World} {b : Nat} {s : Sp} (h : SpaceAt w b s) : w.cell? ⟨b, 0, none⟩ = some (.int .i64 (s.n : Int)) := by rw [row_cell h.cells, cellsS_zero]
theorem SpaceAt.word {w : World} {b : Nat} {s : Sp} (h : SpaceAt w b s) {i : Nat} (hi : i < 1024) : w.cell? ⟨b, 1 + i, none⟩ = some (.int .u64 ((s.f i).toNat : Int)) := by rw [row_cell h.cells, cellsS_at _ _ hi]
theorem SpaceAt.kept {S : Nat → Prop} {w w' : World} {b : Nat} {s : Sp} (h : SpaceAt w b s) (k : Kept S w w') (hb : ¬ S b) : SpaceAt w' b s := ⟨by rw [k.block b h.lt hb]; exact h.cells, h.ok⟩
theorem SpaceAt.below {w w' : World} {b : Nat} {s : Sp} (h : SpaceAt w b s) (k : Below w.heap.size w w') : SpaceAt w' b s := h.kept (S := fun _ => False) (Kept.of_below k) id

/-- The table of math/bits lies there. -/
def Tab (w : World) : Prop := ∀ j, j < 64 → w.cell? ⟨0, j, none⟩ = some (.int .u8 ((Lib.deBruijn64tab.getD j 0 : Nat) : Int))
theorem Tab.lt {w : World} (h : Tab w) : 0 < w.heap.size := by
  have h0 := h 0 (by decide)
  apply Nat.lt_of_not_le
  intro hl
  have : w.heap[0]? = none := Array.getElem?_eq_none hl
  simp [World.cell?, this] at h0
theorem Tab.kept {S : Nat → Prop} {w w' : World} (h : Tab w) (k : Kept S w w') (h0 : ¬ S 0) : Tab w' := fun j hj => by
  rw [← h j hj]
  have := k.block 0 h.lt h0
  simp [World.cell?, this]
theorem Tab.below {w w' : World} (h : Tab w) (k : Below w.heap.size w w') : Tab w' := h.kept (S := fun _ => False) (Kept.of_below k) id
theorem Tab.apart {w : World} {b : Nat} {s : Sp} (h : Tab w) (hs : SpaceAt w b s) : b ≠ 0 := by
  rintro rfl
  have h0 := h 0 (by decide)
  rw [hs.count] at h0
  cases h0

def inB (z : Int) (n : Nat) : Bool := decide (0 ≤ z) && decide (z < (n : Int))
theorem there_any (w : World) (b : Nat) (s : Sp) (h : SpaceAt w b s) (z : Int) :
    Calls Tryd.prog 44 #[.pointer (some ⟨b, 0, none⟩), .int .i64 z] w fun e w' => e = .returned (.bool (inB z s.n)) ∧ w' = w := by
  have c0 := h.count
  clear h
  by_cases h0 : 0 ≤ z
  · have e : inB z s.n = decide (z < (s.n : Int)) := by simp [inB, h0]
    rw [e]
    clear e
    go_enter Tryd.func44, Tryd.ntmps44
    go_wp2
    go_ret
    exact ⟨rfl, rfl⟩
  · have e : inB z s.n = false := by simp [inB, h0]
    rw [e]
    clear e
    go_enter Tryd.func44, Tryd.ntmps44
    go_wp2
    go_ret
    exact ⟨rfl, rfl⟩
theorem mayBe_any (w : World) (z : Int) :
    Calls Tryd.prog 27 #[.int .i64 z] w fun e w' => e = .returned (.bool (decide (16 ≤ z) && decide (z ≤ 65536))) ∧ w' = w := by
  by_cases h0 : 16 ≤ z
  · have e : (decide (16 ≤ z) && decide (z ≤ 65536)) = decide (z ≤ 65536) := by simp [h0]
    rw [e]
    clear e
    go_enter Tryd.func27, Tryd.ntmps27
    go_wp2
    go_ret
    exact ⟨rfl, rfl⟩
  · have e : (decide (16 ≤ z) && decide (z ≤ 65536)) = false := by simp [h0]
    rw [e]
    clear e
    go_enter Tryd.func27, Tryd.ntmps27
    go_wp2
    go_ret
    exact ⟨rfl, rfl⟩
end Go.Proofs.YtlokplnapaghhaaDoor
