/- What the memory of a device says: its twelve cells, its two maps, the rows of what waits, the bytes; and what each look into a map answers. -/
import Derived.Test.YtphnajphgiinfaaProg
import Derived.WalkKit
import Derived.Maps.OwnSet
import Derived.Maps.RangeWalk
import Derived.Maps.Ext
import Derived.KernelRfl
namespace Go.Proofs.Ytphnajphgiinfaa
open Go.RowKit Go.Maps

/-- How an element of 'waits' reads: as itself, if it is a slice. -/
def hW : Value → Option (DataW Value × List MemPlace)
  | .slice a n c => some (.held (.slice a n c), [])
  | _ => none
/-- How an element of 'lasts' reads: as itself, if it is a slice and a bool. -/
def hL : Value → Option (DataW Value × List MemPlace)
  | .agg ⟨[.slice a n c, .bool g]⟩ => some (.held (.agg #[.slice a n c, .bool g]), [])
  | _ => none

theorem hW_inv {v : Value} {y : DataW Value × List MemPlace} (h : hW v = some y) : ∃ a n c, v = .slice a n c ∧ y = (.held v, []) := by
  unfold hW at h
  split at h
  · cases h; exact ⟨_, _, _, rfl, rfl⟩
  · cases h
theorem hL_inv {v : Value} {y : DataW Value × List MemPlace} (h : hL v = some y) : ∃ a n c g, v = .agg #[.slice a n c, .bool g] ∧ y = (.held v, []) := by
  unfold hL at h
  split at h
  · cases h; exact ⟨_, _, _, _, rfl, rfl⟩
  · cases h

abbrev key (n : Int) : Lit := .int .i64 n

/-- The map holds v at the key n. -/
def valAt (D : DataW Value) (n : Int) (v : Value) : Prop := ∀ zd, D.atKey (key n) zd = .held v

theorem law3 : Keyed Try.prog 3 := int_keyed Try.underlying3

theorem key_of {n : Int} (h : (Lit.int .i64 n).wf = true) : keyOf Try.prog 3 (.int .i64 n) = some (key n) := keyOf_int_mk Try.underlying3 h

theorem valAt_has {D : DataW Value} {n : Int} {v : Value} (h : valAt D n v) : Maps.has D (key n) = true := has_true_of_atKey h
theorem valAt_fun {D : DataW Value} {n : Int} {v u : Value} (h : valAt D n v) (h' : valAt D n u) : v = u := by
  have := (h .nil).symm.trans (h' .nil)
  simpa using this

theorem lookW {w : World} {m c : Nat} {D : DataW Value} (h : w.ownsMap Try.prog 3 hW m c D) {n : Int} (hn : (Lit.int .i64 n).wf = true) {v : Value} (hv : valAt D n v) :
    (Instr.lookup 72 (.map (some m)) (.int .i64 n) false).run Try.prog w = .ok v w := by
  obtain ⟨u, ps, hrun, hu⟩ := h.lookup law3 Try.underlying72 (Try.zeroValue80 w) (zd := .held (.slice none 0 0)) (zp := []) rfl (key_of hn)
  rw [hv] at hu
  obtain ⟨_, _, _, _, e⟩ := hW_inv hu
  simp only [Prod.mk.injEq, DataW.held.injEq] at e
  rw [hrun, e.1]

theorem lookW_none {w : World} {m c : Nat} {D : DataW Value} (h : w.ownsMap Try.prog 3 hW m c D) {n : Int} (hn : (Lit.int .i64 n).wf = true) (hv : Maps.has D (key n) = false) :
    (Instr.lookup 72 (.map (some m)) (.int .i64 n) false).run Try.prog w = .ok (.slice none 0 0) w := by
  obtain ⟨u, ps, hrun, hu⟩ := h.lookup law3 Try.underlying72 (Try.zeroValue80 w) (zd := .held (.slice none 0 0)) (zp := []) rfl (key_of hn)
  rw [atKey_of_not_has hv] at hu
  obtain ⟨_, _, _, _, e⟩ := hW_inv hu
  simp only [Prod.mk.injEq, DataW.held.injEq] at e
  rw [hrun, ← e.1]

theorem lookL {w : World} {m c : Nat} {D : DataW Value} (h : w.ownsMap Try.prog 3 hL m c D) {n : Int} (hn : (Lit.int .i64 n).wf = true) {v : Value} (hv : valAt D n v) :
    (Instr.lookup 71 (.map (some m)) (.int .i64 n) true).run Try.prog w = .ok (.tuple #[v, .bool true]) w := by
  obtain ⟨u, ps, hrun, hu⟩ := h.look_ok law3 Try.underlying71 (Try.zeroValue87 w) (zd := .held (.agg #[.slice none 0 0, .bool false])) (zp := []) rfl (key_of hn)
  rw [hv] at hu
  obtain ⟨_, _, _, _, _, e⟩ := hL_inv hu
  simp only [Prod.mk.injEq, DataW.held.injEq] at e
  rw [hrun, e.1, valAt_has hv]

theorem lookL_none {w : World} {m c : Nat} {D : DataW Value} (h : w.ownsMap Try.prog 3 hL m c D) {n : Int} (hn : (Lit.int .i64 n).wf = true) (hv : Maps.has D (key n) = false) :
    (Instr.lookup 71 (.map (some m)) (.int .i64 n) true).run Try.prog w = .ok (.tuple #[.agg #[.slice none 0 0, .bool false], .bool false]) w := by
  obtain ⟨u, ps, hrun, hu⟩ := h.look_ok law3 Try.underlying71 (Try.zeroValue87 w) (zd := .held (.agg #[.slice none 0 0, .bool false])) (zp := []) rfl (key_of hn)
  rw [atKey_of_not_has hv] at hu
  obtain ⟨_, _, _, _, _, e⟩ := hL_inv hu
  simp only [Prod.mk.injEq, DataW.held.injEq] at e
  rw [hrun, ← e.1, hv]

/-! ### the device -/

/-- What a device is: its two maps' blocks and what they hold; its numbers; what lasts and what waits, block by block. -/
structure St where
  size : Nat
  blocks : Nat
  mL : Nat
  mW : Nat
  DL : DataW Value
  DW : DataW Value
  off : Bool
  ch : Int
  how : Int
  done : Bool
  rd : Int
  wt : Int
  /-- none: noughts; some none: it cannot be read -/
  lasts : Int → Option (Option (List UInt8))
  waits : Int → List (List UInt8)
  /-- blocks that are none of the device's, whatever they hold -/
  X : Nat → Prop

def hdr (lk : Int) (s : St) : Array Value := #[.int .i64 s.size, .int .i64 s.blocks, .int .i32 lk, .int .u32 0, .map (some s.mL), .map (some s.mW), .bool s.off, .int .i64 s.ch, .int .i64 s.how, .bool s.done, .int .u64 s.rd, .int .u64 s.wt]

/-- A byte, and the bytes of a slice. -/
def encB (c : UInt8) : Value := .int .u8 (c.toNat : Int)
abbrev bytesAt (w : World) (n : Nat) (v : Value) (bs : List UInt8) : Prop := w.ownsRow 0 5 1 v n (bs.map encB)

/-- Bytes that are the device's. -/
def refAt (w : World) (X : Nat → Prop) (n : Nat) (v : Value) (bs : List UInt8) : Prop := bytesAt w n v bs ∧ ∀ g, v.ownBlock = some g → ¬ X g

/-- A row of waiting writes. -/
def rowAt (w : World) (X : Nat → Prop) (n : Nat) (v : Value) (l : List (List UInt8)) : Prop :=
  ∃ vs : List Value, w.ownsRow 0 29 1 v vs.length vs ∧ vs.length = l.length ∧ ∀ (i : Nat) u bs, vs[i]? = some u → l[i]? = some bs → refAt w X n u bs

/-- What the map 'lasts' says of a block. -/
def lastAt (w : World) (s : St) (n : Int) : Prop :=
  match s.lasts n with
  | none => Maps.has s.DL (key n) = false
  | some none => valAt s.DL n (.agg #[.slice none 0 0, .bool true])
  | some (some bs) => ∃ v, valAt s.DL n (.agg #[v, .bool false]) ∧ refAt w s.X s.size v bs

/-- What the map 'waits' says of a block. -/
def waitAt (w : World) (s : St) (n : Int) : Prop :=
  match s.waits n with
  | [] => Maps.has s.DW (key n) = false
  | l => ∃ v, valAt s.DW n v ∧ rowAt w s.X s.size v l

/-- The device of block b, its mutex's word being lk; c: a bound on how many entries its maps have. -/
structure DevIs (lk : Int) (c : Nat) (w : World) (b : Nat) (s : St) : Prop where
  cells : w.heap[b]? = some (.cells (hdr lk s) 77 (0, 0))
  mapL : w.ownsMap Try.prog 3 hL s.mL c s.DL
  mapW : w.ownsMap Try.prog 3 hW s.mW c s.DW
  apart : s.mL ≠ s.mW
  last : ∀ n, lastAt w s n
  wait : ∀ n, waitAt w s n
  rows : ∀ n n' v v', valAt s.DW n v → valAt s.DW n' v' → n ≠ n' → v.ownBlock ≠ v'.ownBlock
  size : 1 ≤ s.size ∧ s.size ≤ 4096
  blocks : s.blocks ≤ 65536
  alien : ∀ g, s.X g → g < w.heap.size

/-- The blocks that the device alone writes. -/
def Own (b : Nat) (s : St) (k : Nat) : Prop := k = b ∨ k = s.mL ∨ k = s.mW ∨ ∃ n v, valAt s.DW n v ∧ v.ownBlock = some k

/-- Nothing that was there has changed but for what S says. -/
structure Kept (S : Nat → Prop) (w w' : World) : Prop where
  os : w'.os = w.os
  tape : w'.tape = w.tape
  output : w'.output = w.output
  size : w.heap.size ≤ w'.heap.size
  block : ∀ k, k < w.heap.size → ¬ S k → w'.heap[k]? = w.heap[k]?

theorem Kept.refl (S : Nat → Prop) (w : World) : Kept S w w := ⟨rfl, rfl, rfl, Nat.le_refl _, fun _ _ _ => rfl⟩
theorem Kept.of_below {S : Nat → Prop} {w w' : World} (h : Below w.heap.size w w') : Kept S w w' := ⟨h.os, h.tape, h.output, h.size, fun k hk _ => h.block k hk⟩
theorem Kept.of_grown {S : Nat → Prop} {w w' : World} {row : Option Nat} (h : w.grownBy w' row) (hr : ∀ k, row = some k → S k) : Kept S w w' :=
  ⟨h.os, h.tape, h.output, h.size, fun k hk hs => h.block k hk (fun e => hs (hr k e.symm))⟩
theorem Kept.trans {S T : Nat → Prop} {a b c : World} (h : Kept S a b) (k : Kept T b c) (hT : ∀ i, i < a.heap.size → T i → S i) : Kept S a c :=
  ⟨k.os.trans h.os, k.tape.trans h.tape, k.output.trans h.output, Nat.le_trans h.size k.size, fun i hi hs => (k.block i (Nat.lt_of_lt_of_le hi h.size) (fun ht => hs (hT i hi ht))).trans (h.block i hi hs)⟩
theorem Kept.mono {S T : Nat → Prop} {a b : World} (h : Kept S a b) (hT : ∀ i, i < a.heap.size → S i → T i) : Kept T a b :=
  ⟨h.os, h.tape, h.output, h.size, fun i hi hs => h.block i hi (fun x => hs (hT i hi x))⟩

end Go.Proofs.Ytphnajphgiinfaa
