/- The Lot's ends, where it has no lists of ranges. -/
import Derived.Test.YtphohkchffcjeaaEnds
namespace Go.Proofs.Ytphohkchffcjeaa
open Go.RowKit

set_option maxHeartbeats 3200000 in
set_option maxRecDepth 100000 in
theorem lotEnds_none {w : World} {base b : Nat} {vl vw : Value} {items : List (Value × Key)} (H : Book w base b (.slice none 0 0) (.slice none 0 0) vl vw items) (hbase : base ≤ w.heap.size) (hil : items.length ≤ 1000000) (hbl : ∀ (i : Nat) v bs, items[i]? = some (v, bs) → bs.length ≤ 140737488351240) :
    Calls Try.prog 14 #[.pointer (some ⟨b, 0, none⟩)] w fun e w' => e = .returned (.bool true) ∧ Below base w w' := by
  have HE := bookEnds_any H hbase hil hbl
  have HC : Hid (w.heap[b]? = some (.cells #[.slice none 0 0, .slice none 0 0, vl, vw] 31 (0, 0))) := H.cells
  have p0 : w.cell? ⟨b, 0, none⟩ = some (.slice none 0 0) := by rw [row_cell H.cells]; rfl
  clear H hbl
  go_enter Try.func14, Try.ntmps14
  go_wp2
  go_loopw [3] (fun s wr => s = .int .i64 0 ∧ wr = w) (fun _ _ => 0)
  case atStart => exact ⟨rfl, rfl⟩
  case round =>
    obtain ⟨rfl, hwr⟩ := hrel
    rw [hwr]
    clear hwr
    go_wp2_with fail
    refine HE.mono ?_
    rintro e w1 ⟨rfl, hb1, hs1, hc1⟩
    have HB1 : Hid (Below base w w1) := hb1
    have q0 : w1.cell? ⟨b, 0, none⟩ = some (.slice none 0 0) := by rw [row_cell (hc1.trans HC.out)]; rfl
    clear HE hb1 hs1 hc1 p0
    go_wp2
    go_loopw [6] (fun s wr => s = .int .i64 0 ∧ wr = w1) (fun _ _ => 0)
    case atStart => exact ⟨rfl, rfl⟩
    case round =>
      obtain ⟨rfl, hwr⟩ := hrel
      rw [hwr]
      clear hwr
      go_wp2
      go_loopw [9, 8] (fun s t wr => s = .int .i64 0 ∧ t = .slice none 0 0 ∧ wr = w1) (fun _ _ _ => 0)
      case atStart => exact ⟨rfl, rfl, rfl⟩
      case round =>
        obtain ⟨rfl, rfl, hwr⟩ := hrel
        rw [hwr]
        clear hwr
        go_wp2
        go_loopw [12] (fun s wr => s = .int .i64 0 ∧ wr = w1) (fun _ _ => 0)
        case atStart => exact ⟨rfl, rfl⟩
        case round =>
          obtain ⟨rfl, hwr⟩ := hrel
          rw [hwr]
          clear hwr
          go_wp2
          go_ret
          exact ⟨rfl, HB1.out⟩
end Go.Proofs.Ytphohkchffcjeaa
