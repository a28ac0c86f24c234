/- The examples of awake, on lists. -/
import Derived.Test.YtkjjgbaoicjbaabLits
namespace Go.Proofs.Ytkjjgbaoicjbaab
open Go.RowKit

def exM : List Ms := [⟨1, 3, [97], [102], []⟩, ⟨2, 1, [99], [], [120]⟩, ⟨3, 2, [107], [], []⟩]
def exC : List Key := [[97], [99], [99, 0], [102], [107], [107, 0]]
theorem exM_ends : endsM exM = [[97], [102], [99], [99, 0], [107], [107, 0]] := by decide +kernel
theorem exC_is : IsCuts exM exC := by
  refine isCuts_of (by decide +kernel) fun k => ?_
  rw [exM_ends]
  simp only [exC, List.mem_cons, List.not_mem_nil, or_false]
  constructor <;> (rintro (h | h | h | h | h | h) <;> simp [h])
theorem ex_pieces : piecesM exM exC = [⟨false, [], [], [97], [99]⟩, ⟨true, [99], [120], [], []⟩, ⟨false, [], [], [99, 0], [102]⟩, ⟨false, [], [], [107], [107, 0]⟩] := by decide +kernel
theorem ex_get : getM exM [99] = some (some [120]) := by decide +kernel
theorem ex_check : checkM 512 exM = 0 := by decide +kernel
theorem ex_stamp : checkM 512 [⟨2, 1, [97], [], [120]⟩, ⟨2, 2, [98], [], []⟩] = 72 := by decide +kernel
theorem ex_one : checkM 512 [⟨5, 2, [97], [], []⟩] = 0 := by decide +kernel
theorem ex_lay : by4 1 ++ layL [⟨5, 2, [97], [], []⟩] = [0, 0, 0, 1, 0, 0, 0, 0, 0, 0, 0, 5, 2, 0, 1, 0, 0, 97] := by decide +kernel
theorem ex_dec : decR 512 [0, 0, 0, 1, 0, 0, 0, 0, 0, 0, 0, 5, 2, 0, 1, 0, 0, 97] = ([⟨5, 2, [97], [], []⟩], 0) := by decide +kernel
def exS : List Ms := [⟨1, 1, [98], [], [120]⟩, ⟨2, 3, [97], [99], []⟩]
def exD : List Key := [[97], [98], [98, 0], [99]]
theorem exS_ends : endsM exS = [[98], [98, 0], [97], [99]] := by decide +kernel
theorem exD_is : IsCuts exS exD := by
  refine isCuts_of (by decide +kernel) fun k => ?_
  rw [exS_ends]
  simp only [exD, List.mem_cons, List.not_mem_nil, or_false]
  constructor <;> (rintro (h | h | h | h) <;> simp [h])
theorem ex_settle : settleM exS exD = [⟨2, 3, [97], [99], []⟩] := by decide +kernel
/-- A literal of messages. -/
theorem msgs_lit (w : World) (L : List Mt) (hL : ∀ e ∈ L, e.Ok w.heap.size w) (hs : L.length * 88 ≤ 140737488355328) : MsgsAt (w.alloc (.cells (flatM L).toArray 38)).heap.size (w.alloc (.cells (flatM L).toArray 38)) (.slice (some ⟨w.heap.size, 0, none⟩) L.length L.length) L := by
  refine ⟨⟨_, _, rfl, Nat.le_refl _, fun h => (by cases h), fun j u hj => ⟨_, 0, rfl, by simp, ?_⟩⟩, hs, fun e he => (hL e he).here (below_new _ _)⟩
  rw [Nat.zero_add, row_cell (heap_alloc_last w _)]
  simpa using hj
end Go.Proofs.Ytkjjgbaoicjbaab
