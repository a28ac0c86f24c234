/- LeafEncodes: the walk. -/
import Derived.Test.YtgifnaahahfhbaaEncoded
import Derived.Test.YtgifnaahahfhbaaWeight
import Derived.Test.YtgifnaahahfhbaaTurnW
namespace Go.Proofs.Ytgifnaahahfhbaa
open Go.RowKit

set_option maxHeartbeats 1600000 in
set_option maxRecDepth 100000 in
theorem encodes_walk {w : World} {v u : Value} {L O : List It} (z : Int) (hL : ListAt w.heap.size w v L) (hO : ListAt w.heap.size w u O) :
    Calls Try.prog 4 #[.int .i64 z, v, u] w fun e w' => e = .returned (.bool true) ∧ Below w.heap.size w w' := by
  have hsh := hL.short
  obtain ⟨a, c, rfl⟩ := hL.form
  have HL : Hid (ListAt w.heap.size w (.slice a L.length c) L) := hL
  have HO : Hid (ListAt w.heap.size w u O) := hO
  clear hL hO
  go_enter Try.func4, Try.ntmps4
  go_wp2_with fail
  refine (shown_any w).mono ?_
  rintro e w1 ⟨rfl, hb1⟩
  have HB1 : Hid (Below w.heap.size w w1) := hb1
  clear hb1
  have HW := weight_any (HL.out.here HB1.out)
  go_wp2_with fail
  refine HW.mono ?_
  rintro e w2' ⟨⟨s, rfl, hs, hsw⟩, q, rfl⟩
  have HSW : Hid _ := hsw
  clear hsw HW
  have HW := weight_any (HO.out.here (below_draws HB1.out q))
  go_wp2_with fail
  refine HW.mono ?_
  rintro e w2' ⟨⟨s2, rfl, hs2, hsw2⟩, q2, rfl⟩
  have HSW2 : Hid _ := hsw2
  clear hsw2 HW
  obtain ⟨w2, hw2⟩ : ∃ w2, w2 = (w1.drewN q).drewN q2 := ⟨_, rfl⟩
  have HB2 : Hid (Below w.heap.size w w2) := by rw [hw2]; exact below_draws (below_draws HB1.out q) q2
  rw [← hw2]
  clear hw2 HB1
  have nw : IntKind.i64.wrap ((s : Int) + (s2 : Int)) = (s : Int) + (s2 : Int) := by simp [IntKind.wrap, IntKind.bits, IntKind.signed]; omega
  by_cases hle : s + s2 ≤ 2147483647
  · have hz : ¬ (2147483647 : Int) < (s : Int) + (s2 : Int) := by omega
    have HWT : Hid (weightE (L.map It.e) ≤ 4294967296) := by rw [Hid, HSW.out (by omega)]; omega
    have HWO : Hid (weightE (O.map It.e) ≤ 4294967296) := by rw [Hid, HSW2.out (by omega)]; omega
    clear HSW HSW2
    have hww := HB2.out.size
    obtain ⟨b, hb⟩ : ∃ b, b = w2.heap.size := ⟨_, rfl⟩
    have HLI : Hid (∀ W, Below b w2 W → ListAt W.heap.size W (.slice a L.length c) L) := fun W hW => by
      have h := HL.out.here HB2.out
      rw [hb] at hW
      exact h.here hW
    have HOI : Hid (∀ W, Below b w2 W → ListAt W.heap.size W u O) := fun W hW => by
      have h := HO.out.here HB2.out
      rw [hb] at hW
      exact h.here hW
    obtain ⟨WB, hWB⟩ : ∃ WB, WB = w2.alloc (.cells #[.slice none 0 0, .slice none 0 0, .slice none 0 0] 31) := ⟨_, rfl⟩
    have HBB : Hid (Below b w2 WB) := by rw [hWB, hb]; exact below_new _ _
    have HBK : Hid (WB.heap[b]? = some (.cells #[.slice none 0 0, .slice none 0 0, .slice none 0 0] 31 (0, 0))) := by rw [hWB, hb]; exact heap_alloc_last _ _
    have hbl : b < WB.heap.size := (Array.getElem?_eq_some_iff.1 HBK.out).1
    have HC := lend_any (HLI.out WB HBB.out) HWT.out
    have HBE : Hid (b = w2.heap.size) := hb
    go_wp2_with fail
    rw [← hWB, ← hb]
    clear hWB hb
    refine HC.mono ?_
    rintro e w3 ⟨vx, rfl, hlo, hb3⟩
    obtain ⟨gl, ka, kn, kc, va, vn, vc, F, rfl, hF, hFL⟩ := hlo.lists (by rw [List.length_map]; exact hsh)
    rw [List.length_map] at hFL hlo ⊢
    have HLO : Hid (LoanAt WB.heap.size w3 (.agg #[.slice (some ⟨gl, 0, none⟩) (L.length + 2) (L.length + 2), .slice ka kn kc, .slice va vn vc]) (L.map It.e)) := hlo
    have HFL : Hid (∀ W, Ty w3.heap.size w3 W → ListAt W.heap.size W (.slice (some ⟨gl, 0, none⟩) L.length (L.length + 2)) F) := hFL
    have HFE : Hid (F.map It.e = L.map It.e) := hF
    have HB3 : Hid (Below WB.heap.size WB w3) := hb3
    clear HC hlo hb3 hF hFL
    obtain ⟨W4, hW4⟩ : ∃ W4, W4 = w3.alloc (.cells #[.slice (some ⟨gl, 0, none⟩) (L.length + 2) (L.length + 2), .slice ka kn kc, .slice va vn vc] 33) := ⟨_, rfl⟩
    have HB34 : Hid (Below w3.heap.size w3 W4) := by rw [hW4]; exact below_new _ _
    have HX4 : Hid (LBox W4 w3.heap.size (.slice (some ⟨gl, 0, none⟩) (L.length + 2) (L.length + 2)) (.slice ka kn kc) (.slice va vn vc)) := by rw [hW4]; exact ⟨heap_alloc_last _ _⟩
    have hs3 := HB3.out.size
    have hs4 := HX4.out.lt
    obtain ⟨hi, hhi⟩ : ∃ hi, hi = W4.heap.size := ⟨_, rfl⟩
    have HHI : Hid (hi = W4.heap.size) := hhi
    have HB4 : Hid (Below b w2 W4) := (HBB.out.trans (HB3.out.mono (by omega))).trans (HB34.out.mono (by omega))
    have HK4 : Hid (Bk hi b 0 W4) := Bk.new (by rw [HB34.out.block b (by omega), HB3.out.block b hbl]; exact HBK.out)
    have HT3 : Hid (∀ W, Ch b hi W4 W → Ty w3.heap.size w3 W) := fun W hW => (Ty.of HB34.out).trans (hW.ty.mono (by omega))
    have HIN : Hid (∀ W, Ch b hi W4 W → ListAt W.heap.size W (.slice (some ⟨gl, 0, none⟩) L.length (L.length + 2)) F) := fun W hW => HFL.out W (HT3.out W hW)
    have HLI4 : Hid (∀ W, Ch b hi W4 W → ListAt W.heap.size W (.slice a L.length c) L) := fun W hW => HLI.out W (HB4.out.trans hW.low)
    have HOI4 : Hid (∀ W, Ch b hi W4 W → ListAt W.heap.size W u O) := fun W hW => HOI.out W (HB4.out.trans hW.low)
    have HS : Hid (w.heap.size ≤ b ∧ b < WB.heap.size ∧ WB.heap.size ≤ w3.heap.size ∧ w3.heap.size < hi ∧ hi = W4.heap.size) := ⟨by rw [HBE.out]; exact hww, hbl, hs3, by omega, hhi⟩
    clear hs3 hs4 hhi hbl hww HFL HLI HOI HBB HBK
    obtain ⟨k0, k1, k2⟩ := HX4.out.cells
    go_wp2_with fail
    rw [← hW4]
    clear hW4 k0 k1 k2
    refine (encoded_any (z := z) (L := F) (M := L) HK4.out (by omega) (by have := HS.out; omega) HIN.out HLI4.out HFE.out.symm (by rw [HFE.out]; exact HWT.out)).mono ?_
    rintro e w5 ⟨rfl, hk5, hc5⟩
    have HK5 : Hid (Bk hi b 2 w5) := hk5
    have HC5 : Hid (Ch b hi W4 w5) := hc5
    clear hk5 hc5
    go_wp2_with fail
    refine (encoded_any (z := z) (L := O) (M := O) HK5.out (by omega) (by have := HS.out; have := HC5.out.ty.size; omega) (fun W hW => HOI4.out W (HC5.out.trans hW)) (fun W hW => HOI4.out W (HC5.out.trans hW)) rfl HWO.out).mono ?_
    rintro e w6 ⟨rfl, hk6, hc6⟩
    have HK6 : Hid (Bk hi b 4 w6) := hk6
    have HC6 : Hid (Ch b hi W4 w6) := HC5.out.trans hc6
    clear hk6 hc6
    go_wp2_with fail
    refine (encoded_any (z := z) (L := F) (M := L) HK6.out (by omega) (by have := HS.out; have := HC6.out.ty.size; omega) (fun W hW => HIN.out W (HC6.out.trans hW)) (fun W hW => HLI4.out W (HC6.out.trans hW)) HFE.out.symm (by rw [HFE.out]; exact HWT.out)).mono ?_
    rintro e w7 ⟨rfl, hk7, hc7⟩
    have HK7 : Hid (Bk hi b 6 w7) := hk7
    have HC7 : Hid (Ch b hi W4 w7) := HC6.out.trans hc7
    clear hk7 hc7
    obtain ⟨k0, k1, k2⟩ := (HX4.out.ty HC7.out.ty HS.out.2.2.2.1).cells
    have HST := stays_any (HLO.out.ty (HT3.out w7 HC7.out)) (HLI4.out w7 HC7.out) HWT.out
    go_wp2_with fail
    clear k0 k1 k2
    refine HST.mono ?_
    rintro e w8 ⟨rfl, hb8⟩
    have HK8 : Hid (Bk hi b 6 w8) := HK7.out.here hb8
    have HC8 : Hid (Ch b hi W4 w8) := HC7.out.trans (Ch.of hb8 (by have := HS.out; have := HC7.out.ty.size; omega))
    clear hb8 HST
    obtain ⟨k0, k1, k2⟩ := (HX4.out.ty HC8.out.ty HS.out.2.2.2.1).cells
    have HTU := turn_any HLO.out HS.out.2.2.1 (HT3.out w8 HC8.out) HWT.out
    go_wp2_with fail
    clear k0 k1 k2
    refine HTU.mono ?_
    rintro e w9 ⟨v9, F9, rfl, ⟨gl', vk', vv', M, hxe, hM1, hM2, hM3, hM4⟩, hO9, hov⟩
    clear HTU
    have hgl : gl' = gl := by
      simp only [Value.agg.injEq, Array.mk.injEq, List.cons.injEq, Value.slice.injEq, Option.some.injEq, Addr.mk.injEq] at hxe
      exact hxe.1.1.1.symm
    subst hgl
    rw [List.length_map] at hM1 hM4
    have HM4 : Hid (∀ W, Ty w3.heap.size w9 W → ListAt W.heap.size W (.slice (some ⟨gl', 0, none⟩) L.length (L.length + 2)) M) := hM4
    have HME : Hid (F9.map It.e = M.map It.e ∧ weightE (M.map It.e) ≤ 4294967296) := ⟨hM2.symm, by rw [hM2, hM3]; exact HWT.out⟩
    have HFL9 : Hid (F9.length = L.length) := by have := congrArg List.length hM2; rw [List.length_map, List.length_map] at this; rw [Hid, ← this, hM1]
    have HO9 : Hid (OutList w8.heap.size w9 v9 F9) := hO9
    have HK9 : Hid (Bk hi b 6 w9) := HK8.out.over (hov.mono (by have := HS.out; omega))
    have HB9 : Hid (Below b w2 w9) := (HB4.out.trans HC8.out.low).trans (hov.keep.low.mono (by have := HS.out; omega))
    have hs9 : hi ≤ w9.heap.size := by have := HS.out; have := HC8.out.ty.size; have := hov.keep.low.size; omega
    clear hxe hM1 hM2 hM3 hM4 hO9 hov
    go_wp2_with fail
    refine (encoded_any (z := z) (L := M) (M := F9) HK9.out (by omega) hs9 (fun W hW => HM4.out W (hW.ty.mono (by have := HS.out; omega))) (fun W hW => (HO9.out.any hW).list (by rw [HFL9.out]; exact hsh)) HME.out.1 HME.out.2).mono ?_
    rintro e w10 ⟨rfl, hk10, hc10⟩
    have HK10 : Hid (Bk hi b 8 w10) := hk10
    have HB10 : Hid (Below b w2 w10) := HB9.out.trans hc10.low
    clear hk10 hc10 hs9
    go_wp2_with fail
    refine (bk_ends HK10.out (by omega)).mono ?_
    rintro e w11 ⟨rfl, hb11⟩
    have HB11 : Hid (Below w.heap.size w w11) := HB2.out.trans ((HB10.out.trans hb11).mono HS.out.1)
    clear hb11
    go_wp2_with fail
    go_ret
    exact ⟨rfl, HB11.out⟩
  · have hz : (2147483647 : Int) < (s : Int) + (s2 : Int) := by omega
    go_wp2_with fail
    go_ret
    exact ⟨rfl, HB2.out⟩
end Go.Proofs.Ytgifnaahahfhbaa
