/- LeafCuts: the walk. -/
import Derived.Test.YtgifnaahahfhbaaRefCut2
import Derived.Test.YtgifnaahahfhbaaWeight
namespace Go.Proofs.Ytgifnaahahfhbaa
open Go.RowKit

set_option maxHeartbeats 1600000 in
set_option maxRecDepth 100000 in
theorem cuts_walk {w : World} {v vr : Value} {L : List It} {r : Rg} (hL : ListAt w.heap.size w v L) (hr : RangeAt w vr r) :
    Calls Try.prog 7 #[v, vr] w fun e w' => e = .returned (.bool true) ∧ Below w.heap.size w w' := by
  have hsh := hL.short
  obtain ⟨v1, v2, rfl, h1, h2⟩ := hr.is
  obtain ⟨a1, c1, rfl⟩ := h1.in.form
  obtain ⟨a2, c2, rfl⟩ := h2.in.form
  have HL : Hid (ListAt w.heap.size w v L) := hL
  have HRG : Hid (∀ w', Below w.heap.size w w' → RangeAt w' (.agg #[.slice a1 r.lo.length c1, .slice a2 r.hi.length c2, .bool r.all]) r) := fun w' hb => ⟨_, _, rfl, h1.here hb, h2.here hb⟩
  obtain ⟨W0, hW0⟩ : ∃ W0, W0 = w.alloc (.cells #[.slice a1 r.lo.length c1, .slice a2 r.hi.length c2, .bool r.all] 49) := ⟨_, rfl⟩
  have HB0 : Hid (Below w.heap.size w W0) := by rw [hW0]; exact below_new _ _
  have HX0 : Hid (Box W0 w.heap.size (.slice a1 r.lo.length c1) (.slice a2 r.hi.length c2) (.bool r.all)) := by rw [hW0]; exact Box.new _ _ _ _
  clear hL hr h1 h2
  go_enter Try.func7, Try.ntmps7
  go_wp2_with fail
  rw [← hW0]
  clear hW0
  refine (shown_any W0).mono ?_
  rintro e w1 ⟨rfl, hb1⟩
  have HB1 : Hid (Below w.heap.size w w1) := HB0.out.trans (hb1.mono HB0.out.size)
  have HX1 : Hid (Box w1 w.heap.size (.slice a1 r.lo.length c1) (.slice a2 r.hi.length c2) (.bool r.all)) := HX0.out.here hb1
  clear hb1
  have HW := weight_any (HL.out.here HB1.out)
  go_wp2_with fail
  refine HW.mono ?_
  rintro e w2 ⟨⟨s, rfl, hs, hsw⟩, q, rfl⟩
  have HSW : Hid _ := hsw
  clear hsw HW
  by_cases hle : s ≤ 2147483647
  · have hz : ¬ (2147483647 : Int) < (s : Int) := by omega
    obtain ⟨k0, k1, k2⟩ := HX1.out.cells
    have HB2 : Hid (Below w.heap.size w (w1.drewN q)) := below_draws HB1.out q
    have HC := cut_any (HL.out.here HB2.out) (HRG.out _ HB2.out)
    go_wp2_with fail
    refine HC.mono ?_
    rintro e w3 ⟨v3, F, rfl, hF, hn3, hb3⟩
    have HFE : Hid (F.map It.e = cutE r (L.map It.e)) := hF
    have hFl : F.length ≤ L.length := by
      have := congrArg List.length hF
      have h2 := cutE_le r (L.map It.e)
      simp at this h2
      omega
    have HF3 : Hid (ListAt w3.heap.size w3 v3 F) := hn3.list (by omega)
    have HB3 : Hid (Below w.heap.size w w3) := HB2.out.trans (hb3.mono HB2.out.size)
    obtain ⟨k0', k1', k2'⟩ := (Box.here (w := w1.drewN q) ⟨HX1.out.row⟩ hb3).cells
    clear HC hF hn3 hb3 k0 k1 k2
    have HC := refCut_any (HL.out.here HB3.out) (HRG.out _ HB3.out)
    go_wp2_with fail
    refine HC.mono ?_
    rintro e w4 ⟨v4, G, rfl, hG, hn4, hb4⟩
    have hGl : G.length = F.length := by
      have h1 := congrArg List.length hG
      have h2 := congrArg List.length HFE.out
      simp at h1 h2
      omega
    have HS := same_any (HF3.out.here hb4) (hn4.list (by omega))
    rw [HFE.out, hG] at HS
    have HB4 : Hid (Below w.heap.size w w4) := HB3.out.trans (hb4.mono HB3.out.size)
    rw [hGl]
    clear HC hG hn4 hb4 k0' k1' k2' hGl
    go_wp2_with fail
    refine HS.mono ?_
    rintro e w5 ⟨rfl, q5, rfl⟩
    go_wp2
    go_ret
    exact ⟨by simp, below_draws HB4.out q5⟩
  · have hz : (2147483647 : Int) < (s : Int) := by omega
    go_wp2
    go_ret
    exact ⟨rfl, below_draws HB1.out q⟩
end Go.Proofs.Ytgifnaahahfhbaa
