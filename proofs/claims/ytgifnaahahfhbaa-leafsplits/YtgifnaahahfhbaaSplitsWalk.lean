/- LeafSplits: the walk. -/
import Derived.Test.YtgifnaahahfhbaaRefSplit2
import Derived.Test.YtgifnaahahfhbaaWeight
import Derived.Test.YtgifnaahahfhbaaStays
namespace Go.Proofs.Ytgifnaahahfhbaa
open Go.RowKit

theorem LoanAt.here {base : Nat} {w w' : World} {v : Value} {l : List En} (h : LoanAt base w v l) (hb : Below w.heap.size w w') : LoanAt base w' v l := by
  obtain ⟨gl, vk, vv, Z, y1, y2, h1, h2, h3, h4, h5, h6, h7, h8⟩ := h.is
  exact ⟨gl, vk, vv, Z, y1, y2, h1, h2, h3.here hb, own_same h4 fun k _ hl => hb.block k hl, own_same h5 fun k _ hl => hb.block k hl, fun z hz => (h6 z hz).here hb, h7.here hb, h8.here hb⟩
theorem LoanAt.list {base : Nat} {w : World} {v : Value} {l : List En} (h : LoanAt base w v l) (hs : l.length * 48 ≤ 140737488355328) :
    ∃ gl ka kn kc va vn vc F, v = .agg #[.slice (some ⟨gl, 0, none⟩) (l.length + 2) (l.length + 2), .slice ka kn kc, .slice va vn vc] ∧ F.map It.e = l ∧ ListAt w.heap.size w (.slice (some ⟨gl, 0, none⟩) l.length (l.length + 2)) F := by
  obtain ⟨gl, vk, vv, Z, y1, y2, rfl, h2, h3, h4, h5, h6, h7, h8⟩ := h.is
  obtain ⟨ka, kn, kc, rfl⟩ := own_shape h4
  obtain ⟨va, vn, vc, rfl⟩ := own_shape h5
  have hzl : (Z.map Ln.it).length = l.length := by rw [← h2, List.length_map, List.length_map]
  have h9 := h3.list (c := l.length + 2) (by omega) (fun e he => by
    obtain ⟨z, hz, rfl⟩ := List.mem_map.1 he
    exact (h6 z hz).it) (by omega)
  rw [hzl] at h9
  exact ⟨gl, ka, kn, kc, va, vn, vc, _, rfl, by rw [List.map_map]; exact h2, h9⟩

set_option maxHeartbeats 1600000 in
set_option maxRecDepth 100000 in
theorem splits_walk {w : World} {v : Value} {L : List It} (z : Int) (hL : ListAt w.heap.size w v L) :
    Calls Try.prog 8 #[.int .i64 z, v] w fun e w' => e = .returned (.bool true) ∧ Below w.heap.size w w' := by
  have hsh := hL.short
  obtain ⟨a, c, rfl⟩ := hL.form
  have HL : Hid (ListAt w.heap.size w (.slice a L.length c) L) := hL
  clear hL
  go_enter Try.func8, Try.ntmps8
  go_wp2_with fail
  refine (shown_any w).mono ?_
  rintro e w1 ⟨rfl, hb1⟩
  have HB1 : Hid (Below w.heap.size w w1) := hb1
  clear hb1
  have HW := weight_any (HL.out.here HB1.out)
  go_wp2_with fail
  refine HW.mono ?_
  rintro e w2 ⟨⟨s, rfl, hs, hsw⟩, q, rfl⟩
  have HSW : Hid _ := hsw
  clear hsw HW
  by_cases hle : s ≤ 2147483647
  · have hz : ¬ (2147483647 : Int) < (s : Int) := by omega
    have hwt : weightE (L.map It.e) ≤ 4294967296 := by rw [HSW.out hle]; omega
    have HWT : Hid (weightE (L.map It.e) ≤ 4294967296) := hwt
    clear hwt
    have HB2 : Hid (Below w.heap.size w (w1.drewN q)) := below_draws HB1.out q
    have HC := lend_any (HL.out.here HB2.out) HWT.out
    go_wp2_with fail
    refine HC.mono ?_
    rintro e w3 ⟨vx, rfl, hlo, hb3⟩
    have HB3 : Hid (Below w.heap.size w w3) := HB2.out.trans (hb3.mono HB2.out.size)
    obtain ⟨gl, ka, kn, kc, va, vn, vc, F, rfl, hF, hFL⟩ := hlo.list (by rw [List.length_map]; exact hsh)
    rw [List.length_map] at hFL hlo ⊢
    have HLO : Hid _ := hlo
    have HFL : Hid (ListAt w3.heap.size w3 (.slice (some ⟨gl, 0, none⟩) L.length (L.length + 2)) F) := hFL
    have HFE : Hid (F.map It.e = L.map It.e) := hF
    clear HC hlo hb3 hF hFL
    obtain ⟨W4, hW4⟩ : ∃ W4, W4 = w3.alloc (.cells #[.slice (some ⟨gl, 0, none⟩) (L.length + 2) (L.length + 2), .slice ka kn kc, .slice va vn vc] 33) := ⟨_, rfl⟩
    have HB34 : Hid (Below w3.heap.size w3 W4) := by rw [hW4]; exact below_new _ _
    have HX4 : Hid (LBox W4 w3.heap.size (.slice (some ⟨gl, 0, none⟩) (L.length + 2) (L.length + 2)) (.slice ka kn kc) (.slice va vn vc)) := by rw [hW4]; exact ⟨heap_alloc_last _ _⟩
    have HSP : Hid (∀ W, Below w3.heap.size w3 W → Calls Try.prog 26 #[.int .i64 z, .slice (some ⟨gl, 0, none⟩) L.length (L.length + 2)] W fun r w' => r = .returned (.tuple #[.int .i64 ((splitE z (L.map It.e)).1 : Nat), .int .i64 ((splitE z (L.map It.e)).2 : Nat)]) ∧ Below W.heap.size W w') := fun W hb => by
      have := split_any (z := z) (HFL.out.here hb) (by rw [HFE.out]; exact HWT.out)
      rw [HFE.out] at this
      exact this
    obtain ⟨k0, k1, k2⟩ := HX4.out.cells
    go_wp2_with fail
    rw [← hW4]
    clear hW4
    refine (HSP.out W4 HB34.out).mono ?_
    rintro e w5 ⟨rfl, hb5⟩
    have HB35 : Hid (Below w3.heap.size w3 w5) := HB34.out.trans (hb5.mono HB34.out.size)
    have HX5 : Hid (LBox w5 w3.heap.size (.slice (some ⟨gl, 0, none⟩) (L.length + 2) (L.length + 2)) (.slice ka kn kc) (.slice va vn vc)) := HX4.out.here hb5
    clear hb5 k0 k1 k2 HX4 HB34
    obtain ⟨k0, k1, k2⟩ := HX5.out.cells
    go_wp2_with fail
    refine (HSP.out w5 HB35.out).mono ?_
    rintro e w6 ⟨rfl, hb6⟩
    have HB36 : Hid (Below w3.heap.size w3 w6) := HB35.out.trans (hb6.mono HB35.out.size)
    have HX6 : Hid (LBox w6 w3.heap.size (.slice (some ⟨gl, 0, none⟩) (L.length + 2) (L.length + 2)) (.slice ka kn kc) (.slice va vn vc)) := HX5.out.here hb6
    clear hb6 k0 k1 k2 HX5 HB35 HSP
    have HB6 : Hid (Below w.heap.size w w6) := HB3.out.trans (HB36.out.mono HB3.out.size)
    have HRS := refSplit_any (z := z) (HL.out.here HB6.out) HWT.out
    obtain ⟨p1, hp1⟩ : ∃ p1, p1 = (splitE z (L.map It.e)).1 := ⟨_, rfl⟩
    obtain ⟨p2, hp2⟩ : ∃ p2, p2 = (splitE z (L.map It.e)).2 := ⟨_, rfl⟩
    rw [← hp1, ← hp2] at HRS ⊢
    clear hp1 hp2
    go_wp2_with fail
    refine HRS.mono ?_
    rintro e w7' ⟨rfl, q7, rfl⟩
    obtain ⟨w7, hw7⟩ : ∃ w7, w7 = w6.drewN q7 := ⟨_, rfl⟩
    rw [← hw7]
    have HB37 : Hid (Below w3.heap.size w3 w7) := by rw [hw7]; exact below_draws HB36.out _
    have HB7 : Hid (Below w.heap.size w w7) := by rw [hw7]; exact below_draws HB6.out _
    have hx7 : LBox w7 w3.heap.size (.slice (some ⟨gl, 0, none⟩) (L.length + 2) (L.length + 2)) (.slice ka kn kc) (.slice va vn vc) := by rw [hw7]; exact ⟨HX6.out.row⟩
    clear hw7 HX6 HB36 HB6 HRS
    obtain ⟨k0, k1, k2⟩ := hx7.cells
    have HST := stays_any (LoanAt.here HLO.out HB37.out) (HL.out.here HB7.out) HWT.out
    go_wp2_with fail
    refine HST.mono ?_
    rintro e w8 ⟨rfl, hb8⟩
    go_wp2
    go_ret
    exact ⟨by simp, HB7.out.trans (hb8.mono HB7.out.size)⟩
  · have hz : (2147483647 : Int) < (s : Int) := by omega
    go_wp2
    go_ret
    exact ⟨rfl, below_draws HB1.out q⟩
end Go.Proofs.Ytgifnaahahfhbaa
