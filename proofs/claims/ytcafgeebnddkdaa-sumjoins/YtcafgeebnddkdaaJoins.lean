/- The law SumJoins's walk. -/
import Derived.Test.YtcafgeebnddkdaaRef
namespace Go.Proofs.Ytcafgeebnddkdaa
open Go.RowKit

theorem top_i64 {c : Int} (h : (Lit.int .i64 c).wf = true) : c ≤ 9223372036854775807 := by
  have : -9223372036854775808 ≤ c ∧ c ≤ 9223372036854775807 := by simpa [Lit.wf, IntKind.min, IntKind.max, IntKind.bits, IntKind.signed] using h
  exact this.2

set_option maxHeartbeats 800000 in
set_option maxRecDepth 100000 in
theorem joins_walk (a b : BitVec 64) (n : Int) (w : World) (hn : (Lit.int .i64 n).wf = true) :
    Calls Try.prog 4 #[.int .u64 (a.toNat : Int), .int .u64 (b.toNat : Int), .int .i64 n] w fun e w' => e = .returned (.bool true) ∧ Below w.heap.size w w' := by
  have HN : Hid (n ≤ 9223372036854775807) := top_i64 hn
  clear hn
  go_enter Try.func4, Try.ntmps4
  go_wp2_with fail
  refine (shown_any _).mono ?_
  rintro _ w1 ⟨rfl, hb1⟩
  have HB1 : Hid (Below w.heap.size w w1) := hb1
  clear hb1
  go_wp2_with fail
  refine (join_any _ _ _ _ HN.out).mono ?_
  rintro _ _ ⟨rfl, rfl⟩
  go_wp2_with fail
  refine (join_any _ _ _ _ HN.out).mono ?_
  rintro _ _ ⟨rfl, rfl⟩
  go_wp2_with fail
  refine (join_any _ _ _ _ HN.out).mono ?_
  rintro _ _ ⟨rfl, rfl⟩
  go_wp2_with fail
  refine (joinR_any _ _ _ _ HN.out).mono ?_
  rintro _ _ ⟨rfl, rfl⟩
  go_wp2_with fail
  refine (joinR_any _ _ _ _ HN.out).mono ?_
  rintro _ _ ⟨rfl, rfl⟩
  go_wp2
  go_ret
  exact ⟨rfl, HB1.out⟩
end Go.Proofs.Ytcafgeebnddkdaa
