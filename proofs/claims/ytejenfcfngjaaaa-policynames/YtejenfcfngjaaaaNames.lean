/- The law PolicyNames, walked. -/
import Derived.Test.YtejenfcfngjaaaaShown
namespace Go.Proofs.Ytejenfcfngjaaaa
open Go.RowKit

theorem policyNames_any (w : World) : Calls Try.prog 3 #[] w fun e w' => e = .returned (.bool true) ∧ Below w.heap.size w w' := by
  have HA := shown_any w
  go_enter Try.func3, Try.ntmps3
  go_wp2_with (go_at_call 7; refine HA.mono ?_; rintro e w1 ⟨rfl, hb⟩; have HB : Hid _ := hb; clear hb)
  go_ret
  exact ⟨rfl, HB.out⟩
end Go.Proofs.Ytejenfcfngjaaaa
