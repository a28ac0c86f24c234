/- SpaceNames's walk. -/
import Derived.Test.YtlokplnapaghhaaDoorAlive
namespace Go.Proofs.YtlokplnapaghhaaDoor
open Go.RowKit
theorem spaceNames_any (w : World) (ht : Tab w) : Calls Tryd.prog 3 #[] w fun e w' => e = .returned (.bool true) ∧ Below w.heap.size w w' := by
  have HA := alive_any w ht
  clear ht
  go_enter Tryd.func3, Tryd.ntmps3
  go_wp2_with (go_at_call 8; refine HA.mono ?_; rintro e w1 ⟨rfl, hb⟩; have HB : Hid _ := hb; clear hb)
  go_ret
  exact ⟨rfl, HB.out⟩
end Go.Proofs.YtlokplnapaghhaaDoor
