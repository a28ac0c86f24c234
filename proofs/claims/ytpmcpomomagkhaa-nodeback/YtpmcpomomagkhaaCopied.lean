/- A message of new memory. -/
import Derived.Test.YtpmcpomomagkhaaEnc
namespace Go.Proofs.Ytpmcpomomagkhaa
open Go.RowKit

theorem infoMs : (Try.prog.info? 48).map (·.size) = some 5 := by kernel_rfl
theorem ret_msg {fn : Func} {p : Tmp} (h : fn.results = #[.cell p 48]) {tmps : Array Value} {w : World} {b : Nat} {e : Mt} (hp : tmps.getD p undef = .pointer (some ⟨b, 0, none⟩)) (hB : MBox w b e) :
    (results fn tmps).run Try.prog w = .ok e.val w :=
  results_cell_row h tmps w b 48 _ (0, 0) _ hp hB.row Try.underlying48 rfl infoMs
def put5 (w : World) (b : Nat) (e : Mt) : World := ((((w.setCell ⟨b, 0, none⟩ (.int .u64 (e.m.st : Int))).setCell ⟨b, 1, none⟩ (.int .i64 e.m.kd)).setCell ⟨b, 2, none⟩ e.v1).setCell ⟨b, 3, none⟩ e.v2).setCell ⟨b, 4, none⟩ e.v3
theorem put5_box {w : World} {b : Nat} {e : Mt} (x : Mt) (h : MBox w b x) : MBox (put5 w b e) b e :=
  ⟨heap_set_same e.v3 (heap_set_same e.v2 (heap_set_same e.v1 (heap_set_same (.int .i64 e.m.kd) (heap_set_same (.int .u64 (e.m.st : Int)) h.row))))⟩
theorem put5_keep {B b : Nat} {w : World} {x : Mt} (e : Mt) (h : MBox w b x) (hB : B ≤ b) : Keep 48 B w (put5 w b e) :=
  (keep_set h.row hB _).trans ((keep_set (heap_set_same _ h.row) hB _).trans ((keep_set (heap_set_same _ (heap_set_same _ h.row)) hB _).trans ((keep_set (heap_set_same _ (heap_set_same _ (heap_set_same _ h.row))) hB _).trans (keep_set (heap_set_same _ (heap_set_same _ (heap_set_same _ (heap_set_same _ h.row)))) hB _))))
theorem MBox.open {w : World} {b : Nat} {e : Mt} (h : MBox w b e) (i : Nat) : w.frozen? ⟨b, i, none⟩ = false := row_frozen h.row i
/-- A message of new memory. -/
structure NewMsg (base : Nat) (w : World) (y : Mt) : Prop where
  lo : NewKey base w y.v1 y.m.lo
  hi : NewKey base w y.v2 y.m.hi
  va : NewKey base w y.v3 y.m.va
  st : y.m.st < 18446744073709551616
  kd : -9223372036854775808 ≤ y.m.kd ∧ y.m.kd ≤ 9223372036854775807
theorem NewKey.in {base : Nat} {w : World} {v : Value} {k : Key} (h : NewKey base w v k) : KeyIn w.heap.size w v k := h.at.in
theorem NewMsg.ok {base : Nat} {w : World} {y : Mt} (h : NewMsg base w y) : y.Ok w.heap.size w := ⟨h.lo.in, h.hi.in, h.va.in, h.st, h.kd⟩
theorem NewMsg.here {base : Nat} {w w' : World} {y : Mt} (h : NewMsg base w y) (hb : Below w.heap.size w w') : NewMsg base w' y := ⟨h.lo.here hb, h.hi.here hb, h.va.here hb, h.st, h.kd⟩
theorem NewMsg.mono {base base' : Nat} {w : World} {y : Mt} (h : NewMsg base w y) (hb : base' ≤ base) : NewMsg base' w y := ⟨h.lo.mono hb, h.hi.mono hb, h.va.mono hb, h.st, h.kd⟩
theorem NewMsg.keep {base T B : Nat} {w w' : World} {y : Mt} (h : NewMsg base w y) (hk : Keep T B w w') (hT : 5 ≠ T) : NewMsg base w' y := ⟨h.lo.keep hk hT, h.hi.keep hk hT, h.va.keep hk hT, h.st, h.kd⟩

def zeroM : Mt := ⟨.slice none 0 0, .slice none 0 0, .slice none 0 0, ⟨0, 0, [], [], []⟩⟩
/-- What copied gives. -/
structure CopyPost (w : World) (m : Ms) (r : Ending) (w' : World) : Prop where
  is : ∃ y : Mt, r = .returned y.val ∧ y.m = m ∧ NewMsg w.heap.size w' y ∧ Below w.heap.size w w'

end Go.Proofs.Ytpmcpomomagkhaa
