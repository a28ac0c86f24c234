/- BranchDecodes: the walk. -/
import Derived.Test.YtaehchijeinloaaAlive
import Derived.Test.YtaehchijeinloaaRefDec
import Derived.Test.YtaehchijeinloaaOutE
import Derived.Test.YtaehchijeinloaaSpansW1
import Derived.Deep.RegionHeldLaw
namespace Go.Proofs.Ytaehchijeinloaa
open Go.RowKit

/-- A variable with Kids of new memory. -/
structure KVarD (W wx : World) (sv : Value) (d : Kd) : Prop where
  is : ∃ (g : Nat) (a1 a2 : Option Addr) (c1 c2 : Nat) (F : List Kc), sv = .pointer (some ⟨g, 0, none⟩) ∧ W.heap.size ≤ g ∧ KBox wx g (.slice a1 d.ps.length c1) (.slice a2 F.length c2) ∧ NewInts W.heap.size wx (.slice a1 d.ps.length c1) d.ps ∧ NewKeys W.heap.size wx (.slice a2 F.length c2) F ∧ keysOf F = d.ks ∧ Below W.heap.size W wx
theorem kvar_d {W w4 : World} {d : Kd} {a1 a2 : Option Addr} {c1 c2 : Nat} {F : List Kc} (hb : Below W.heap.size W w4) (h1 : NewInts W.heap.size w4 (.slice a1 d.ps.length c1) d.ps) (h2 : NewKeys W.heap.size w4 (.slice a2 F.length c2) F) (h3 : keysOf F = d.ks) :
    KVarD W (w4.alloc (.cells #[.slice a1 d.ps.length c1, .slice a2 F.length c2] 26)) (.pointer (some ⟨w4.heap.size, 0, none⟩)) d :=
  ⟨_, a1, a2, c1, c2, F, rfl, hb.size, KBox.new w4 _ _, h1.here (below_new _ _), h2.here (below_new _ _), h3, hb.trans ((below_new w4 _).mono hb.size)⟩
/-- What Decode tells is small. -/
structure SmallD (d : Kd) : Prop where
  n : d.ps.length ≤ 1024
  f : ∀ p ∈ d.ps, -9223372036854775808 ≤ p ∧ p ≤ 9223372036854775807
  m : d.ks.length ≤ 1024
  k : ∀ k ∈ d.ks, k.length ≤ 256
theorem decD_small (z : Int) (b : Key) : SmallD (decD z b) := by
  unfold decD
  cases h : decK z b with
  | none => exact ⟨by simp, fun p hp => by simp at hp, by simp, fun k hk => by simp at hk⟩
  | some d =>
    have hc := (decK_iff.1 h).1
    obtain ⟨h1, h2, _, h4⟩ := check_small hc
    have hp := (pages_iff.1 (checkK_ok hc).2.2.2.1).1
    exact ⟨by simpa using Nat.le_of_lt h1, fun p h => by have := hp p h; omega, by simpa using Nat.le_of_lt h2, h4⟩

set_option maxHeartbeats 6400000 in
set_option maxRecDepth 100000 in
theorem decodes_walk {w : World} {v u : Value} {b d : Key} {z : Int} (h : KeyAt w v b) (hu : KeyAt w u d) (hbl : b.length ≤ 140737488351232) :
    Calls Try.prog 5 #[.int .i64 z, v, u] w fun e w' => e = .returned (.bool true) ∧ Below w.heap.size w w' := by
  obtain ⟨a1, c1, rfl⟩ := h.in.form
  obtain ⟨a2, c2, rfl⟩ := hu.in.form
  have HA : Hid (∀ W', Below w.heap.size w W' → KeyAt W' (.slice a1 b.length c1) b) := fun W' hb => h.here hb
  have HB : Hid (∀ W', Below w.heap.size w W' → KeyAt W' (.slice a2 d.length c2) d) := fun W' hb => hu.here hb
  clear h hu
  go_enter Try.func5, Try.ntmps5
  go_wp2_with fail
  refine (alive_any w).mono ?_
  rintro e wA ⟨rfl, hb⟩
  have HWA : Hid (Below w.heap.size w wA) := hb
  clear hb
  go_upto_region 3 with fail
  obtain ⟨wD, hD⟩ : ∃ wD, wD = wA.alloc (.cells #[.slice none 0 0, .slice none 0 0] 41) := ⟨_, rfl⟩
  rw [← hD]
  obtain ⟨bo, hbo⟩ : ∃ bo, bo = wA.heap.size := ⟨_, rfl⟩
  rw [← hbo]
  have HAD : Hid (Below wA.heap.size wA wD) := by rw [hD]; exact below_new _ _
  have HWD : Hid (Below w.heap.size w wD) := HWA.out.trans (HAD.out.mono HWA.out.size)
  have HOD : Hid (OutS bo wD (.slice none 0 0) (.slice none 0 0) 0 [] []) := by
    rw [hD, hbo]
    exact ⟨heap_alloc_last _ _, World.ownsRow_nil _ _ _ _, World.ownsRow_nil _ _ _ _, fun k hk => (by cases hk), by simp⟩
  have HWO : Hid (w.heap.size ≤ bo) := by rw [hbo]; exact HWA.out.size
  have HOS : Hid (bo < wD.heap.size) := HOD.out.hB
  clear hD hbo HAD
  go_upto_region 4 with (first
    | (at_builtin; refine wpList_append_key rfl _ _ rfl wD.heap.size (.slice (some ⟨wD.heap.size, 0, none⟩) 0 0) _ [] b rfl (newE wD) rfl (HA.out _ (HWD.out.trans ((below_new wD _).mono HWD.out.size))) (by simp; omega) (by simp) ?_
       intro v1 w4 hv1 hk4
       have HV1 : Hid (NewKey wD.heap.size w4 v1 b) := hv1
       have HB4 : Hid (Below wD.heap.size wD w4) := (below_new wD _).trans (hk4.low.mono (by simp))
       clear hv1 hk4)
    | (at_builtin; refine wpList_append_key rfl _ _ rfl wD.heap.size v1 _ b [167] rfl (HV1.out.here (below_new _ _)) rfl (lit1 rfl) (by simp; omega) (Nat.le_trans HB4.out.size (by simp)) ?_
       intro v2 w5 hv2 hk5
       have HV2 : Hid (NewKey wD.heap.size w5 v2 (b ++ [167])) := hv2
       have HD5 : Hid (Below wD.heap.size wD w5) := (HB4.out.trans ((below_new w4 _).mono HB4.out.size)).trans hk5.low
       clear hv2 hk5))
  obtain ⟨gl, cl, e1, hcl, hgl, hgl2⟩ := HV2.out.full (by simp)
  rw [snoc_len] at e1 hcl
  subst e1
  have hcl1 : b.length ≤ cl := by omega
  have HVC : Hid (NewKey wD.heap.size w5 (.slice (some ⟨gl, 0, none⟩) (b.length + 1) cl) (b ++ [167])) := HV2.out
  have HFR : Hid (∀ W', Below w5.heap.size w5 W' → KeyAt W' (.slice (some ⟨gl, 0, none⟩) b.length cl) b) := fun W' hb => (HVC.out.here hb).front rfl
  have HW5 : Hid (Below w.heap.size w w5) := HWD.out.trans (HD5.out.mono HWD.out.size)
  have hsD5 : wD.heap.size ≤ w5.heap.size := HD5.out.size
  clear HV1 HV2 HB4
  obtain ⟨n1, hn1⟩ : ∃ n, n = decErr z b := ⟨_, rfl⟩
  obtain ⟨d1, hd1⟩ : ∃ d, d = decD z b := ⟨_, rfl⟩
  obtain ⟨n2, hn2⟩ : ∃ n, n = decErr z d := ⟨_, rfl⟩
  obtain ⟨d2, hd2⟩ : ∃ d', d' = decD z d := ⟨_, rfl⟩
  have HSD1 : Hid (SmallD d1) := by rw [hd1]; exact decD_small z b
  have HSD2 : Hid (SmallD d2) := by rw [hd2]; exact decD_small z d
  have HD1 : Hid (∀ W', Below w5.heap.size w5 W' → Calls Try.prog 16 #[.int .i64 z, .slice (some ⟨gl, 0, none⟩) b.length cl] W' fun r w' => ∃ v', r = .returned (.tuple #[v', .int .i64 (n1 : Nat)]) ∧ NewKids W'.heap.size w' v' d1 ∧ Below W'.heap.size W' w') := fun W' hb => by
    have h := decode_any (z := z) (HFR.out W' hb)
    rw [← hn1, ← hd1] at h
    exact h
  have HD2 : Hid (∀ W', Below w.heap.size w W' → Calls Try.prog 16 #[.int .i64 z, .slice a2 d.length c2] W' fun r w' => ∃ v', r = .returned (.tuple #[v', .int .i64 (n2 : Nat)]) ∧ NewKids W'.heap.size w' v' d2 ∧ Below W'.heap.size W' w') := fun W' hb => by
    have h := decode_any (z := z) (HB.out W' hb)
    rw [← hn2, ← hd2] at h
    exact h
  have HR1 : Hid (∀ W', Below w.heap.size w W' → Calls Try.prog 17 #[.int .i64 z, .slice a1 b.length c1] W' fun r w' => ∃ v', r = .returned (.tuple #[v', .int .i64 (n1 : Nat)]) ∧ NewKids W'.heap.size w' v' d1 ∧ Below W'.heap.size W' w') := fun W' hb => by
    have h := refDecode_any (z := z) (HA.out W' hb)
    rw [← hn1, ← hd1] at h
    exact h
  have HR2 : Hid (∀ W', Below w.heap.size w W' → Calls Try.prog 17 #[.int .i64 z, .slice a2 d.length c2] W' fun r w' => ∃ v', r = .returned (.tuple #[v', .int .i64 (n2 : Nat)]) ∧ NewKids W'.heap.size w' v' d2 ∧ Below W'.heap.size W' w') := fun W' hb => by
    have h := refDecode_any (z := z) (HB.out W' hb)
    rw [← hn2, ← hd2] at h
    exact h
  clear hn1 hd1 hn2 hd2
  -- A
  
  go_cut [10, 11] (fun sA sB wx => sB = .int .i64 (n1 : Nat) ∧ KVarD w5 wx sA d1)
  case first =>
    go_wp2_with fail
    refine Calls.mono (HD1.out w5 (Below.refl _ _)) ?_
    rintro e w99 ⟨v', rfl, hn9, hb9⟩
    obtain ⟨vp', vk', F', rfl, hi9, hk9, hf9⟩ := hn9.is
    obtain ⟨b1, e1, rfl⟩ := own_form hi9.own
    obtain ⟨b2, e2, rfl⟩ := own_form hk9.own
    have HI9 : Hid _ := hi9
    have HN9 : Hid _ := hk9
    have HF9 : Hid _ := hf9
    have HX9 : Hid (Below w5.heap.size w5 w99) := hb9
    clear hn9 hb9 hi9 hk9 hf9
    go_wp2_with fail
    go_meet
    exact ⟨rfl, kvar_d HX9.out HI9.out HN9.out HF9.out⟩
  case rest =>
  obtain ⟨rfl, hsv⟩ := hcut
  obtain ⟨gA, sA, tA, mA, oA, FA, rfl, hgA, hbx, hin, hke, hfe, hb⟩ := hsv.is
  obtain ⟨w6, rfl⟩ : ∃ w6, w6 = wc := ⟨_, rfl⟩
  have HBA : Hid (KBox w6 gA (.slice sA d1.ps.length mA) (.slice tA FA.length oA)) := hbx
  have HKA : Hid (NewKo w5.heap.size w6.heap.size w6 (⟨.slice sA d1.ps.length mA, .slice tA FA.length oA, d1.ps, FA⟩ : Ko)) := NewKo.of (e := (⟨.slice sA d1.ps.length mA, .slice tA FA.length oA, d1.ps, FA⟩ : Ko)) hin hke
  have HFA : Hid (keysOf FA = d1.ks) := hfe
  have HA : Hid (Below w5.heap.size w5 w6) := hb
  have hsA : w5.heap.size ≤ w6.heap.size := hb.size
  have hlA : gA < w6.heap.size := hbx.lt
  have H56 : Hid (Below w5.heap.size w5 w6) := hb
  have HW6 : Hid (Below w.heap.size w w6) := HW5.out.trans (hb.mono HW5.out.size)
  clear hsv hbx hin hke hfe hb
  -- B
  go_upto_region 5 with fail
  go_cut [12, 13] (fun sA sB wx => sB = .int .i64 (n2 : Nat) ∧ KVarD w6 wx sA d2)
  case first =>
    go_wp2_with fail
    refine Calls.mono (HD2.out w6 (HW6.out)) ?_
    rintro e w99 ⟨v', rfl, hn9, hb9⟩
    obtain ⟨vp', vk', F', rfl, hi9, hk9, hf9⟩ := hn9.is
    obtain ⟨b1, e1, rfl⟩ := own_form hi9.own
    obtain ⟨b2, e2, rfl⟩ := own_form hk9.own
    have HI9 : Hid _ := hi9
    have HN9 : Hid _ := hk9
    have HF9 : Hid _ := hf9
    have HX9 : Hid (Below w6.heap.size w6 w99) := hb9
    clear hn9 hb9 hi9 hk9 hf9
    go_wp2_with fail
    go_meet
    exact ⟨rfl, kvar_d HX9.out HI9.out HN9.out HF9.out⟩
  case rest =>
  obtain ⟨rfl, hsv⟩ := hcut
  obtain ⟨gB, sB, tB, mB, oB, FB, rfl, hgB, hbx, hin, hke, hfe, hb⟩ := hsv.is
  obtain ⟨w7, rfl⟩ : ∃ w7, w7 = wc := ⟨_, rfl⟩
  have HBB : Hid (KBox w7 gB (.slice sB d2.ps.length mB) (.slice tB FB.length oB)) := hbx
  have HKB : Hid (NewKo w6.heap.size w7.heap.size w7 (⟨.slice sB d2.ps.length mB, .slice tB FB.length oB, d2.ps, FB⟩ : Ko)) := NewKo.of (e := (⟨.slice sB d2.ps.length mB, .slice tB FB.length oB, d2.ps, FB⟩ : Ko)) hin hke
  have HFB : Hid (keysOf FB = d2.ks) := hfe
  have HB : Hid (Below w6.heap.size w6 w7) := hb
  have hsB : w6.heap.size ≤ w7.heap.size := hb.size
  have hlB : gB < w7.heap.size := hbx.lt
  have H57 : Hid (Below w5.heap.size w5 w7) := H56.out.trans (hb.mono H56.out.size)
  have HW7 : Hid (Below w.heap.size w w7) := HW6.out.trans (hb.mono HW6.out.size)
  clear hsv hbx hin hke hfe hb
  -- C
  go_upto_region 6 with fail
  go_cut [14, 15] (fun sA sB wx => sB = .int .i64 (n1 : Nat) ∧ KVarD w7 wx sA d1)
  case first =>
    go_wp2_with fail
    refine Calls.mono (HD1.out w7 (H57.out)) ?_
    rintro e w99 ⟨v', rfl, hn9, hb9⟩
    obtain ⟨vp', vk', F', rfl, hi9, hk9, hf9⟩ := hn9.is
    obtain ⟨b1, e1, rfl⟩ := own_form hi9.own
    obtain ⟨b2, e2, rfl⟩ := own_form hk9.own
    have HI9 : Hid _ := hi9
    have HN9 : Hid _ := hk9
    have HF9 : Hid _ := hf9
    have HX9 : Hid (Below w7.heap.size w7 w99) := hb9
    clear hn9 hb9 hi9 hk9 hf9
    go_wp2_with fail
    go_meet
    exact ⟨rfl, kvar_d HX9.out HI9.out HN9.out HF9.out⟩
  case rest =>
  obtain ⟨rfl, hsv⟩ := hcut
  obtain ⟨gC, sC, tC, mC, oC, FC, rfl, hgC, hbx, hin, hke, hfe, hb⟩ := hsv.is
  obtain ⟨w8, rfl⟩ : ∃ w8, w8 = wc := ⟨_, rfl⟩
  have HBC : Hid (KBox w8 gC (.slice sC d1.ps.length mC) (.slice tC FC.length oC)) := hbx
  have HKC : Hid (NewKo w7.heap.size w8.heap.size w8 (⟨.slice sC d1.ps.length mC, .slice tC FC.length oC, d1.ps, FC⟩ : Ko)) := NewKo.of (e := (⟨.slice sC d1.ps.length mC, .slice tC FC.length oC, d1.ps, FC⟩ : Ko)) hin hke
  have HFC : Hid (keysOf FC = d1.ks) := hfe
  have HC : Hid (Below w7.heap.size w7 w8) := hb
  have hsC : w7.heap.size ≤ w8.heap.size := hb.size
  have hlC : gC < w8.heap.size := hbx.lt
  have H58 : Hid (Below w5.heap.size w5 w8) := H57.out.trans (hb.mono H57.out.size)
  have HW8 : Hid (Below w.heap.size w w8) := HW7.out.trans (hb.mono HW7.out.size)
  clear hsv hbx hin hke hfe hb
  -- D
  go_upto_region 7 with fail
  go_cut [16, 17] (fun sA sB wx => sB = .int .i64 (n1 : Nat) ∧ KVarD w8 wx sA d1)
  case first =>
    go_wp2_with fail
    refine Calls.mono (HR1.out w8 (HW8.out)) ?_
    rintro e w99 ⟨v', rfl, hn9, hb9⟩
    obtain ⟨vp', vk', F', rfl, hi9, hk9, hf9⟩ := hn9.is
    obtain ⟨b1, e1, rfl⟩ := own_form hi9.own
    obtain ⟨b2, e2, rfl⟩ := own_form hk9.own
    have HI9 : Hid _ := hi9
    have HN9 : Hid _ := hk9
    have HF9 : Hid _ := hf9
    have HX9 : Hid (Below w8.heap.size w8 w99) := hb9
    clear hn9 hb9 hi9 hk9 hf9
    go_wp2_with fail
    go_meet
    exact ⟨rfl, kvar_d HX9.out HI9.out HN9.out HF9.out⟩
  case rest =>
  obtain ⟨rfl, hsv⟩ := hcut
  obtain ⟨gD, sD, tD, mD, oD, FD, rfl, hgD, hbx, hin, hke, hfe, hb⟩ := hsv.is
  obtain ⟨w9, rfl⟩ : ∃ w9, w9 = wc := ⟨_, rfl⟩
  have HBD : Hid (KBox w9 gD (.slice sD d1.ps.length mD) (.slice tD FD.length oD)) := hbx
  have HKD : Hid (NewKo w8.heap.size w9.heap.size w9 (⟨.slice sD d1.ps.length mD, .slice tD FD.length oD, d1.ps, FD⟩ : Ko)) := NewKo.of (e := (⟨.slice sD d1.ps.length mD, .slice tD FD.length oD, d1.ps, FD⟩ : Ko)) hin hke
  have HFD : Hid (keysOf FD = d1.ks) := hfe
  have HD : Hid (Below w8.heap.size w8 w9) := hb
  have hsD : w8.heap.size ≤ w9.heap.size := hb.size
  have hlD : gD < w9.heap.size := hbx.lt
  have H59 : Hid (Below w5.heap.size w5 w9) := H58.out.trans (hb.mono H58.out.size)
  have HW9 : Hid (Below w.heap.size w w9) := HW8.out.trans (hb.mono HW8.out.size)
  clear hsv hbx hin hke hfe hb
  -- E
  go_upto_region 8 with fail
  go_cut [18, 19] (fun sA sB wx => sB = .int .i64 (n2 : Nat) ∧ KVarD w9 wx sA d2)
  case first =>
    go_wp2_with fail
    refine Calls.mono (HR2.out w9 (HW9.out)) ?_
    rintro e w99 ⟨v', rfl, hn9, hb9⟩
    obtain ⟨vp', vk', F', rfl, hi9, hk9, hf9⟩ := hn9.is
    obtain ⟨b1, e1, rfl⟩ := own_form hi9.own
    obtain ⟨b2, e2, rfl⟩ := own_form hk9.own
    have HI9 : Hid _ := hi9
    have HN9 : Hid _ := hk9
    have HF9 : Hid _ := hf9
    have HX9 : Hid (Below w9.heap.size w9 w99) := hb9
    clear hn9 hb9 hi9 hk9 hf9
    go_wp2_with fail
    go_meet
    exact ⟨rfl, kvar_d HX9.out HI9.out HN9.out HF9.out⟩
  case rest =>
  obtain ⟨rfl, hsv⟩ := hcut
  obtain ⟨gE, sE, tE, mE, oE, FE, rfl, hgE, hbx, hin, hke, hfe, hb⟩ := hsv.is
  obtain ⟨w10, rfl⟩ : ∃ w10, w10 = wc := ⟨_, rfl⟩
  have HBE : Hid (KBox w10 gE (.slice sE d2.ps.length mE) (.slice tE FE.length oE)) := hbx
  have HKE : Hid (NewKo w9.heap.size w10.heap.size w10 (⟨.slice sE d2.ps.length mE, .slice tE FE.length oE, d2.ps, FE⟩ : Ko)) := NewKo.of (e := (⟨.slice sE d2.ps.length mE, .slice tE FE.length oE, d2.ps, FE⟩ : Ko)) hin hke
  have HFE : Hid (keysOf FE = d2.ks) := hfe
  have HE : Hid (Below w9.heap.size w9 w10) := hb
  have hsE : w9.heap.size ≤ w10.heap.size := hb.size
  have hlE : gE < w10.heap.size := hbx.lt
  have H510 : Hid (Below w5.heap.size w5 w10) := H59.out.trans (hb.mono H59.out.size)
  have HW10 : Hid (Below w.heap.size w w10) := HW9.out.trans (hb.mono HW9.out.size)
  clear hsv hbx hin hke hfe hb
  clear HD1 HD2 HR1 HR2
  have HO10 : Hid (OutS bo w10 (.slice none 0 0) (.slice none 0 0) 0 [] []) := HOD.out.here (HD5.out.trans (H510.out.mono hsD5))
  have HBAt : Hid (KBox w10 gA (.slice sA d1.ps.length mA) (.slice tA FA.length oA)) := ((((HBA.out.here HB.out).here HC.out).here HD.out).here HE.out)
  have HKAt : Hid (NewKo w5.heap.size w6.heap.size w10 (⟨.slice sA d1.ps.length mA, .slice tA FA.length oA, d1.ps, FA⟩ : Ko)) := HKA.out.move fun k h1 h2 => (((HE.out.block k (by omega)).trans (HD.out.block k (by omega))).trans (HC.out.block k (by omega))).trans (HB.out.block k (by omega))
  have HBBt : Hid (KBox w10 gB (.slice sB d2.ps.length mB) (.slice tB FB.length oB)) := (((HBB.out.here HC.out).here HD.out).here HE.out)
  have HKBt : Hid (NewKo w6.heap.size w7.heap.size w10 (⟨.slice sB d2.ps.length mB, .slice tB FB.length oB, d2.ps, FB⟩ : Ko)) := HKB.out.move fun k h1 h2 => ((HE.out.block k (by omega)).trans (HD.out.block k (by omega))).trans (HC.out.block k (by omega))
  have HBCt : Hid (KBox w10 gC (.slice sC d1.ps.length mC) (.slice tC FC.length oC)) := ((HBC.out.here HD.out).here HE.out)
  have HKCt : Hid (NewKo w7.heap.size w8.heap.size w10 (⟨.slice sC d1.ps.length mC, .slice tC FC.length oC, d1.ps, FC⟩ : Ko)) := HKC.out.move fun k h1 h2 => (HE.out.block k (by omega)).trans (HD.out.block k (by omega))
  have HBDt : Hid (KBox w10 gD (.slice sD d1.ps.length mD) (.slice tD FD.length oD)) := (HBD.out.here HE.out)
  have HKDt : Hid (NewKo w8.heap.size w9.heap.size w10 (⟨.slice sD d1.ps.length mD, .slice tD FD.length oD, d1.ps, FD⟩ : Ko)) := HKD.out.move fun k h1 h2 => HE.out.block k (by omega)
  have HBEt : Hid (KBox w10 gE (.slice sE d2.ps.length mE) (.slice tE FE.length oE)) := HBE.out
  have HKEt : Hid (NewKo w9.heap.size w10.heap.size w10 (⟨.slice sE d2.ps.length mE, .slice tE FE.length oE, d2.ps, FE⟩ : Ko)) := HKE.out
  clear HBA HKA HA HBB HKB HB HBC HKC HC HBD HKD HD HBE HKE HE
  have HEA : Hid (kd d1.ps FA = kd d1.ps FD) := by rw [Hid, kd, kd, HFA.out, HFD.out]
  have HEB : Hid (kd d2.ps FB = kd d2.ps FE) := by rw [Hid, kd, kd, HFB.out, HFE.out]
  have HEC : Hid (kd d1.ps FC = kd d1.ps FD) := by rw [Hid, kd, kd, HFC.out, HFD.out]
  have HLA : Hid (FA.length ≤ 1024) := by
    have h1 := congrArg List.length HFA.out
    have h3 := HSD1.out.m
    rw [keysOf_length] at h1
    rw [Hid]
    omega
  have HLB : Hid (FB.length ≤ 1024) := by
    have h1 := congrArg List.length HFB.out
    have h3 := HSD2.out.m
    rw [keysOf_length] at h1
    rw [Hid]
    omega
  have HLC : Hid (FC.length ≤ 1024) := by
    have h1 := congrArg List.length HFC.out
    have h3 := HSD1.out.m
    rw [keysOf_length] at h1
    rw [Hid]
    omega
  have hbo5 : bo < w5.heap.size := by have := HOS.out; omega
  obtain ⟨u0, u1⟩ := HBAt.out.cells
  obtain ⟨v0, v1⟩ := HBDt.out.cells
  have HKP : Hid _ := keep_any HO10.out HKAt.out.p HKAt.out.k HKDt.out.p HKDt.out.k HEA.out (by omega) (by have := HSD1.out.n; show d1.ps.length * 8 ≤ _; omega) HSD1.out.f (by have := HLA.out; show FA.length * 24 ≤ _; omega)
  go_wp2_with fail
  refine Calls.mono HKP.out ?_
  rintro e w11 ⟨rfl, vl1, vw1, ho, hk, hf⟩
  have HO11 : Hid (OutS bo w11 vl1 vw1 1 (flat [(⟨.slice sA d1.ps.length mA, .slice tA FA.length oA, d1.ps, FA⟩ : Ko)]) (flat [(⟨.slice sD d1.ps.length mD, .slice tD FD.length oD, d1.ps, FD⟩ : Ko)])) := ho
  have HT1 : Hid (∀ k, bo < k → k < w10.heap.size → w11.heap[k]? = w10.heap[k]?) := fun k h1 h2 => hk.block k h2 (by rintro (e | e | e); omega; cases e; cases e)
  have HV1 : Hid (∀ k, vl1.ownBlock = some k ∨ vw1.ownBlock = some k → w10.heap.size ≤ k) := fun k hk => by
    rcases hf k hk with (e | e) | e
    · cases e
    · cases e
    · exact e
  have hsz1 : w10.heap.size ≤ w11.heap.size := hk.size
  have HW11 : Hid (Below w.heap.size w w11) := HW10.out.trans (hk.below HW10.out.size fun k e => by
    have := HWO.out
    rcases e with e | e | e
    · omega
    · cases e
    · cases e)
  clear ho hk hf HKP u0 u1 v0 v1
  have HBB1 : Hid (KBox w11 gB (.slice sB d2.ps.length mB) (.slice tB FB.length oB)) := ⟨(HT1.out gB (by omega) (by omega)).trans HBBt.out.row⟩
  have HKB1 : Hid (NewKo w6.heap.size w7.heap.size w11 (⟨.slice sB d2.ps.length mB, .slice tB FB.length oB, d2.ps, FB⟩ : Ko)) := HKBt.out.move fun k h1 h2 => HT1.out k (by omega) (by omega)
  have HBE1 : Hid (KBox w11 gE (.slice sE d2.ps.length mE) (.slice tE FE.length oE)) := ⟨(HT1.out gE (by omega) (by omega)).trans HBEt.out.row⟩
  have HKE1 : Hid (NewKo w9.heap.size w10.heap.size w11 (⟨.slice sE d2.ps.length mE, .slice tE FE.length oE, d2.ps, FE⟩ : Ko)) := HKEt.out.move fun k h1 h2 => HT1.out k (by omega) (by omega)
  obtain ⟨u0, u1⟩ := HBB1.out.cells
  obtain ⟨v0, v1⟩ := HBE1.out.cells
  have HKP : Hid _ := keep_any HO11.out HKB1.out.p HKB1.out.k HKE1.out.p HKE1.out.k HEB.out (by omega) (by have := HSD2.out.n; show d2.ps.length * 8 ≤ _; omega) HSD2.out.f (by have := HLB.out; show FB.length * 24 ≤ _; omega)
  go_wp2_with fail
  refine Calls.mono HKP.out ?_
  rintro e w12 ⟨rfl, vl2, vw2, ho, hk, hf⟩
  have HO12 : Hid (OutS bo w12 vl2 vw2 2 (flat [(⟨.slice sA d1.ps.length mA, .slice tA FA.length oA, d1.ps, FA⟩ : Ko), (⟨.slice sB d2.ps.length mB, .slice tB FB.length oB, d2.ps, FB⟩ : Ko)]) (flat [(⟨.slice sD d1.ps.length mD, .slice tD FD.length oD, d1.ps, FD⟩ : Ko), (⟨.slice sE d2.ps.length mE, .slice tE FE.length oE, d2.ps, FE⟩ : Ko)])) := ho
  have HT2 : Hid (∀ k, bo < k → k < w10.heap.size → w12.heap[k]? = w10.heap[k]?) := fun k h1 h2 => (hk.block k (by omega) (by
    rintro (e | e | e)
    · omega
    · have := HV1.out k (.inl e); omega
    · have := HV1.out k (.inr e); omega)).trans (HT1.out k h1 h2)
  have HV2 : Hid (∀ k, vl2.ownBlock = some k ∨ vw2.ownBlock = some k → w10.heap.size ≤ k) := fun k hk => by
    rcases hf k hk with e | e
    · exact HV1.out k e
    · omega
  have hsz2 : w10.heap.size ≤ w12.heap.size := Nat.le_trans hsz1 hk.size
  have HW12 : Hid (Below w.heap.size w w12) := HW11.out.trans (hk.below HW11.out.size fun k e => by
    have h1 := HWO.out
    have h2 := HW10.out.size
    rcases e with e | e | e
    · omega
    · have := HV1.out k (.inl e); omega
    · have := HV1.out k (.inr e); omega)
  clear ho hk hf HKP u0 u1 v0 v1
  have HBC2 : Hid (KBox w12 gC (.slice sC d1.ps.length mC) (.slice tC FC.length oC)) := ⟨(HT2.out gC (by omega) (by omega)).trans HBCt.out.row⟩
  have HKC2 : Hid (NewKo w7.heap.size w8.heap.size w12 (⟨.slice sC d1.ps.length mC, .slice tC FC.length oC, d1.ps, FC⟩ : Ko)) := HKCt.out.move fun k h1 h2 => HT2.out k (by omega) (by omega)
  have HBD2 : Hid (KBox w12 gD (.slice sD d1.ps.length mD) (.slice tD FD.length oD)) := ⟨(HT2.out gD (by omega) (by omega)).trans HBDt.out.row⟩
  have HKD2 : Hid (NewKo w8.heap.size w9.heap.size w12 (⟨.slice sD d1.ps.length mD, .slice tD FD.length oD, d1.ps, FD⟩ : Ko)) := HKDt.out.move fun k h1 h2 => HT2.out k (by omega) (by omega)
  obtain ⟨u0, u1⟩ := HBC2.out.cells
  obtain ⟨v0, v1⟩ := HBD2.out.cells
  have HKP : Hid _ := keep_any HO12.out HKC2.out.p HKC2.out.k HKD2.out.p HKD2.out.k HEC.out (by omega) (by have := HSD1.out.n; show d1.ps.length * 8 ≤ _; omega) HSD1.out.f (by have := HLC.out; show FC.length * 24 ≤ _; omega)
  go_wp2_with fail
  refine Calls.mono HKP.out ?_
  rintro e w13 ⟨rfl, vl3, vw3, ho, hk, hf⟩
  have HO13 : Hid (OutS bo w13 vl3 vw3 3 (flat [(⟨.slice sA d1.ps.length mA, .slice tA FA.length oA, d1.ps, FA⟩ : Ko), (⟨.slice sB d2.ps.length mB, .slice tB FB.length oB, d2.ps, FB⟩ : Ko), (⟨.slice sC d1.ps.length mC, .slice tC FC.length oC, d1.ps, FC⟩ : Ko)]) (flat [(⟨.slice sD d1.ps.length mD, .slice tD FD.length oD, d1.ps, FD⟩ : Ko), (⟨.slice sE d2.ps.length mE, .slice tE FE.length oE, d2.ps, FE⟩ : Ko), (⟨.slice sD d1.ps.length mD, .slice tD FD.length oD, d1.ps, FD⟩ : Ko)])) := ho
  have HT3 : Hid (∀ k, bo < k → k < w10.heap.size → w13.heap[k]? = w10.heap[k]?) := fun k h1 h2 => (hk.block k (by omega) (by
    rintro (e | e | e)
    · omega
    · have := HV2.out k (.inl e); omega
    · have := HV2.out k (.inr e); omega)).trans (HT2.out k h1 h2)
  have HV3 : Hid (∀ k, vl3.ownBlock = some k ∨ vw3.ownBlock = some k → w10.heap.size ≤ k) := fun k hk => by
    rcases hf k hk with e | e
    · exact HV2.out k e
    · omega
  have hsz3 : w10.heap.size ≤ w13.heap.size := Nat.le_trans hsz2 hk.size
  have HW13 : Hid (Below w.heap.size w w13) := HW12.out.trans (hk.below HW12.out.size fun k e => by
    have h1 := HWO.out
    have h2 := HW10.out.size
    rcases e with e | e | e
    · omega
    · have := HV2.out k (.inl e); omega
    · have := HV2.out k (.inr e); omega)
  clear ho hk hf HKP u0 u1 v0 v1
  have HEN : Hid (∀ q, Calls Try.prog 19 #[.pointer (some ⟨bo, 0, none⟩)] (w13.drewN q) fun e w' => e = .returned (.bool true) ∧ Below (bo + 1) (w13.drewN q) w') := fun q => by
    have kA := HKAt.out.move (w' := w13.drewN q) fun k h1 h2 => HT3.out k (by omega) (by omega)
    have kB := HKBt.out.move (w' := w13.drewN q) fun k h1 h2 => HT3.out k (by omega) (by omega)
    have kC := HKCt.out.move (w' := w13.drewN q) fun k h1 h2 => HT3.out k (by omega) (by omega)
    have kD := HKDt.out.move (w' := w13.drewN q) fun k h1 h2 => HT3.out k (by omega) (by omega)
    have kE := HKEt.out.move (w' := w13.drewN q) fun k h1 h2 => HT3.out k (by omega) (by omega)
    refine ends_of (its := [(⟨.slice sA d1.ps.length mA, .slice tA FA.length oA, d1.ps, FA⟩ : Ko), (⟨.slice sB d2.ps.length mB, .slice tB FB.length oB, d2.ps, FB⟩ : Ko), (⟨.slice sC d1.ps.length mC, .slice tC FC.length oC, d1.ps, FC⟩ : Ko)]) (wants := [(⟨.slice sD d1.ps.length mD, .slice tD FD.length oD, d1.ps, FD⟩ : Ko), (⟨.slice sE d2.ps.length mE, .slice tE FE.length oE, d2.ps, FE⟩ : Ko), (⟨.slice sD d1.ps.length mD, .slice tD FD.length oD, d1.ps, FD⟩ : Ko)]) (HO13.out.here (below_draws (Below.refl _ _) q)) rfl (fun j => if j = 0 then w5.heap.size else if j = 1 then w6.heap.size else w7.heap.size) (fun j => if j = 0 then w6.heap.size else if j = 1 then w7.heap.size else w8.heap.size) (fun j e he => ?_) (fun j => ?_) (fun p q hpq hq => ?_) (fun j e e' he he' => ?_) (by simp) (fun e he => ?_) ?_ (fun e he => ?_)
    · match j, he with
      | 0, he => cases he; exact kA
      | 1, he => cases he; exact kB
      | 2, he => cases he; exact kC
      | j + 3, he => cases he
    · split
      · omega
      · split <;> omega
    · have hq3 : q < 3 := hq
      by_cases h1 : p = 0
      · subst h1
        rw [if_pos rfl, if_neg (by omega)]
        split <;> omega
      · have h2 : p = 1 := by omega
        have h3 : q = 2 := by omega
        subst h2
        subst h3
        simp only [Nat.one_ne_zero, if_false, if_true, show (2 : Nat) ≠ 0 by omega, show (2 : Nat) ≠ 1 by omega]
        omega
    · match j, he, he' with
      | 0, he, he' => cases he; cases he'; exact ⟨⟨_, kD.p, kD.k⟩, HEA.out⟩
      | 1, he, he' => cases he; cases he'; exact ⟨⟨_, kE.p, kE.k⟩, HEB.out⟩
      | 2, he, he' => cases he; cases he'; exact ⟨⟨_, kD.p, kD.k⟩, HEC.out⟩
      | j + 3, he, _ => cases he
    · simp only [List.mem_cons, List.not_mem_nil, or_false] at he
      rcases he with rfl | rfl | rfl
      · exact ⟨by have := HSD1.out.n; show d1.ps.length ≤ _; omega, HSD1.out.f⟩
      · exact ⟨by have := HSD2.out.n; show d2.ps.length ≤ _; omega, HSD2.out.f⟩
      · exact ⟨by have := HSD1.out.n; show d1.ps.length ≤ _; omega, HSD1.out.f⟩
    · have h1 := HLA.out
      have h2 := HLB.out
      have h3 := HLC.out
      simp only [keysAll, List.flatMap_cons, List.flatMap_nil, List.length_append, List.length_nil]
      omega
    · simp only [keysAll, List.flatMap_cons, List.flatMap_nil, List.mem_append, List.not_mem_nil, or_false] at he
      rcases he with he | he | he
      · have := HSD1.out.k e.k (by rw [← HFA.out]; exact List.mem_map.2 ⟨e, he, rfl⟩); omega
      · have := HSD2.out.k e.k (by rw [← HFB.out]; exact List.mem_map.2 ⟨e, he, rfl⟩); omega
      · have := HSD1.out.k e.k (by rw [← HFC.out]; exact List.mem_map.2 ⟨e, he, rfl⟩); omega
  have HVE : Hid (NewKey wD.heap.size w13 (.slice (some ⟨gl, 0, none⟩) (b.length + 1) cl) (b ++ [167])) := ⟨own_same HVC.out.1 fun g hg hl => by
    have h1 := (own_type HVC.out.1 g hg).2.1
    have h2 := HOS.out
    exact (HT3.out g (by omega) (by omega)).trans (H510.out.block g hl), HVC.out.2⟩
  have v1 : Sem.run Try.prog (convert 27 9 (.slice (some ⟨gl, 0, none⟩) b.length cl)) w13.drew = .ok (.string (strB b)) w13.drew := conv_key ((HVE.out.front rfl).draws 1)
  have v2 : Sem.run Try.prog (convert 27 9 (.slice a1 b.length c1)) w13.drew = .ok (.string (strB b)) w13.drew := conv_key ((HA.out w13 HW13.out).draws 1)
  have c7 : w13.cell? ⟨gl, b.length, none⟩ = some (.int .u8 167) := (HVE.out.byte (i := b.length) (x := 167) (by simp)).1
  have hnn1 : ((n1 : Int) == (n1 : Int)) = true := by simp
  have hnn2 : ((n2 : Int) == (n2 : Int)) = true := by simp
  have hlt : (b.length : Int) < (b.length : Int) + 1 := by omega
  generalize strB b = S1 at v1 v2
  clear HVE HVC HFR
  have HEN1 : Hid (Calls Try.prog 19 #[.pointer (some ⟨bo, 0, none⟩)] w13.drew fun e w' => e = .returned (.bool true) ∧ Below (bo + 1) w13.drew w') := HEN.out 1
  clear HEN HA HB HWA HOD HOS HD5 HSD1 HSD2 HW5 hsD5 hgl hgl2 H56 H57 H58 H59 H510 HW6 HW7 HW8 HW9 HW10 HW11 HW12 HFA HFB HFC HFD HFE HEA HEB HEC HLA HLB HLC HT1 HT2 HT3 HV1 HV2 HV3 HO10 HO11 HO12 HO13 hsz1 hsz2 hsz3 hsA hsB hsC hsD hsE hlA hlB hlC hlD hlE hgA hgB hgC hgD hgE hbo5 HBAt HBBt HBCt HBDt HBEt HKAt HKBt HKCt HKDt HKEt HBB1 HKB1 HBE1 HKE1 HBC2 HKC2 HBD2 HKD2 HWD
  go_wp2_with fail
  refine wp_region_held_drew (S := fun _ => True) (by kernel_rfl) trivial (fun hHeld => ?_)
  refine wpAnyH_take (i := 0) (v := ?_) rfl (by kernel_rfl) (by kernel_rfl) (by kernel_rfl) (fun _ _ _ h => h) (Or.inl ⟨by kernel_rfl, ?_⟩) (by assumption) ?_
  rotate_left
  · intro w0 hSw
    try dsimp only at hSw
    go_simp
    with_reducible rfl
  try simp only [Act.put]
  refine wpAnyH_take (i := 1) (v := ?_) rfl (by kernel_rfl) (by kernel_rfl) (by kernel_rfl) (fun _ _ _ h => h) (Or.inl ⟨by kernel_rfl, ?_⟩) (by assumption) ?_
  rotate_left
  · intro w0 hSw
    try dsimp only at hSw
    go_simp
    with_reducible rfl
  try simp only [Act.put]
  refine wpAnyH_take (i := 2) (v := ?_) rfl (by kernel_rfl) (by kernel_rfl) (by kernel_rfl) (fun _ _ _ h => h) (Or.inl ⟨by kernel_rfl, ?_⟩) (by assumption) ?_
  rotate_left
  · intro w0 hSw
    try dsimp only at hSw
    go_simp
    with_reducible rfl
  try simp only [Act.put]
  refine wpAnyH_take (i := 3) (v := ?_) rfl (by kernel_rfl) (by kernel_rfl) (by kernel_rfl) (fun _ _ _ h => h) (Or.inl ⟨by kernel_rfl, ?_⟩) (by assumption) ?_
  rotate_left
  · intro w0 hSw
    try dsimp only at hSw
    go_simp
    with_reducible rfl
  try simp only [Act.put]
  refine wpAnyH_take (i := 4) (v := ?_) rfl (by kernel_rfl) (by kernel_rfl) (by kernel_rfl) (fun _ _ _ h => h) (Or.inl ⟨by kernel_rfl, ?_⟩) (by assumption) ?_
  rotate_left
  · intro w0 hSw
    try dsimp only at hSw
    go_simp
    with_reducible rfl
  try simp only [Act.put]
  refine wpAnyH_take (i := 5) (v := ?_) rfl (by kernel_rfl) (by kernel_rfl) (by kernel_rfl) (fun _ _ _ h => h) (Or.inl ⟨by kernel_rfl, ?_⟩) (by assumption) ?_
  rotate_left
  · intro w0 hSw
    try dsimp only at hSw
    go_simp
    with_reducible rfl
  try simp only [Act.put]
  refine wpAnyH_take (i := 6) (v := ?_) rfl (by kernel_rfl) (by kernel_rfl) (by kernel_rfl) (fun _ _ _ h => h) (Or.inl ⟨by kernel_rfl, ?_⟩) (by assumption) ?_
  rotate_left
  · intro w0 hSw
    try dsimp only at hSw
    go_simp
    with_reducible rfl
  try simp only [Act.put]
  refine wpAnyH_take (i := 7) (v := ?_) rfl (by kernel_rfl) (by kernel_rfl) (by kernel_rfl) (fun _ _ _ h => h) (Or.inl ⟨by kernel_rfl, ?_⟩) (by assumption) ?_
  rotate_left
  · intro w0 hSw
    try dsimp only at hSw
    go_simp
    with_reducible rfl
  try simp only [Act.put]
  refine wpAnyH_take (i := 8) (v := ?_) rfl (by kernel_rfl) (by kernel_rfl) (by kernel_rfl) (fun _ _ _ h => h) (Or.inl ⟨by kernel_rfl, ?_⟩) (by assumption) ?_
  rotate_left
  · intro w0 hSw
    try dsimp only at hSw
    go_simp
    with_reducible rfl
  try simp only [Act.put]
  refine wpAnyH_take (i := 9) (v := ?_) rfl (by kernel_rfl) (by kernel_rfl) (by kernel_rfl) (fun _ _ _ h => h) (Or.inl ⟨by kernel_rfl, ?_⟩) (by assumption) ?_
  rotate_left
  · intro w0 hSw
    try dsimp only at hSw
    go_simp
    with_reducible rfl
  try simp only [Act.put]
  refine wpAnyH_take (i := 10) (v := ?_) rfl (by kernel_rfl) (by kernel_rfl) (by kernel_rfl) (fun _ _ _ h => h) (Or.inl ⟨by kernel_rfl, ?_⟩) (by assumption) ?_
  rotate_left
  · intro w0 hSw
    try dsimp only at hSw
    go_simp
    with_reducible rfl
  try simp only [Act.put]
  refine wpAnyH_take (i := 11) (v := ?_) rfl (by kernel_rfl) (by kernel_rfl) (by kernel_rfl) (fun _ _ _ h => h) (Or.inl ⟨by kernel_rfl, ?_⟩) (by assumption) ?_
  rotate_left
  · intro w0 hSw
    try dsimp only at hSw
    go_simp
    with_reducible rfl
  try simp only [Act.put]
  refine wpAnyH_take (i := 12) (v := ?_) rfl (by kernel_rfl) (by kernel_rfl) (by kernel_rfl) (fun _ _ _ h => h) (Or.inl ⟨by kernel_rfl, ?_⟩) (by assumption) ?_
  rotate_left
  · intro w0 hSw
    try dsimp only at hSw
    go_simp
    with_reducible rfl
  try simp only [Act.put]
  refine wpAnyH_take (i := 13) (v := ?_) rfl (by kernel_rfl) (by kernel_rfl) (by kernel_rfl) (fun _ _ _ h => h) (Or.inl ⟨by kernel_rfl, ?_⟩) (by assumption) ?_
  rotate_left
  · intro w0 hSw
    try dsimp only at hSw
    go_simp
    with_reducible rfl
  try simp only [Act.put]
  refine wpAnyH_take (i := 14) (v := ?_) rfl (by kernel_rfl) (by kernel_rfl) (by kernel_rfl) (fun _ _ _ h => h) (Or.inl ⟨by kernel_rfl, ?_⟩) (by assumption) ?_
  rotate_left
  · intro w0 hSw
    try dsimp only at hSw
    go_simp
    with_reducible rfl
  try simp only [Act.put]
  refine wpAnyH_take (i := 15) (v := ?_) rfl (by kernel_rfl) (by kernel_rfl) (by kernel_rfl) (fun _ _ _ h => h) (Or.inl ⟨by kernel_rfl, ?_⟩) (by assumption) ?_
  rotate_left
  · intro w0 hSw
    try dsimp only at hSw
    go_simp
    with_reducible rfl
  try simp only [Act.put]
  refine wpAnyH_take (i := 16) (v := ?_) rfl (by kernel_rfl) (by kernel_rfl) (by kernel_rfl) (fun _ _ _ h => h) (Or.inl ⟨by kernel_rfl, ?_⟩) (by assumption) ?_
  rotate_left
  · intro w0 hSw
    try dsimp only at hSw
    go_simp
    with_reducible rfl
  try simp only [Act.put]
  refine wpAnyH_take (i := 17) (v := ?_) rfl (by kernel_rfl) (by kernel_rfl) (by kernel_rfl) (fun _ _ _ h => h) (Or.inl ⟨by kernel_rfl, ?_⟩) (by assumption) ?_
  rotate_left
  · intro w0 hSw
    try dsimp only at hSw
    go_simp
    with_reducible rfl
  try simp only [Act.put]
  refine wpAnyH_take (i := 18) (v := ?_) rfl (by kernel_rfl) (by kernel_rfl) (by kernel_rfl) (fun _ _ _ h => h) (Or.inl ⟨by kernel_rfl, ?_⟩) (by assumption) ?_
  rotate_left
  · intro w0 hSw
    try dsimp only at hSw
    go_simp
    with_reducible rfl
  try simp only [Act.put]
  refine wpAnyH_take (i := 19) (v := ?_) rfl (by kernel_rfl) (by kernel_rfl) (by kernel_rfl) (fun _ _ _ h => h) (Or.inl ⟨by kernel_rfl, ?_⟩) (by assumption) ?_
  rotate_left
  · intro w0 hSw
    try dsimp only at hSw
    go_simp
    with_reducible rfl
  try simp only [Act.put]
  refine wpAnyH_take (i := 20) (v := ?_) rfl (by kernel_rfl) (by kernel_rfl) (by kernel_rfl) (fun _ _ _ h => h) (Or.inl ⟨by kernel_rfl, ?_⟩) (by assumption) ?_
  rotate_left
  · intro w0 hSw
    try dsimp only at hSw
    go_simp
    with_reducible rfl
  try simp only [Act.put]
  refine wpAnyH_take (i := 21) (v := ?_) rfl (by kernel_rfl) (by kernel_rfl) (by kernel_rfl) (fun _ _ _ h => h) (Or.inl ⟨by kernel_rfl, ?_⟩) (by assumption) ?_
  rotate_left
  · intro w0 hSw
    try dsimp only at hSw
    go_simp
    with_reducible rfl
  try simp only [Act.put]
  refine wpAnyH_take (i := 22) (v := ?_) rfl (by kernel_rfl) (by kernel_rfl) (by kernel_rfl) (fun _ _ _ h => h) (Or.inl ⟨by kernel_rfl, ?_⟩) (by assumption) ?_
  rotate_left
  · intro w0 hSw
    try dsimp only at hSw
    go_simp
    with_reducible rfl
  try simp only [Act.put]
  refine wpAnyH_take (i := 23) (v := ?_) rfl (by kernel_rfl) (by kernel_rfl) (by kernel_rfl) (fun _ _ _ h => h) (Or.inl ⟨by kernel_rfl, ?_⟩) (by assumption) ?_
  rotate_left
  · intro w0 hSw
    try dsimp only at hSw
    go_simp
    with_reducible rfl
  try simp only [Act.put]
  refine wpAnyH_take (i := 24) (v := ?_) rfl (by kernel_rfl) (by kernel_rfl) (by kernel_rfl) (fun _ _ _ h => h) (Or.inl ⟨by kernel_rfl, ?_⟩) (by assumption) ?_
  rotate_left
  · intro w0 hSw
    try dsimp only at hSw
    go_simp
    with_reducible rfl
  try simp only [Act.put]
  refine wpAnyH_take (i := 25) (v := ?_) rfl (by kernel_rfl) (by kernel_rfl) (by kernel_rfl) (fun _ _ _ h => h) (Or.inl ⟨by kernel_rfl, ?_⟩) (by assumption) ?_
  rotate_left
  · intro w0 hSw
    try dsimp only at hSw
    go_simp
    with_reducible rfl
  try simp only [Act.put]
  refine wpAnyH_take (i := 26) (v := ?_) rfl (by kernel_rfl) (by kernel_rfl) (by kernel_rfl) (fun _ _ _ h => h) (Or.inl ⟨by kernel_rfl, ?_⟩) (by assumption) ?_
  rotate_left
  · intro w0 hSw
    try dsimp only at hSw
    go_simp
    with_reducible rfl
  try simp only [Act.put]
  refine wpAnyH_take (i := 27) (v := ?_) rfl (by kernel_rfl) (by kernel_rfl) (by kernel_rfl) (fun _ _ _ h => h) (Or.inl ⟨by kernel_rfl, ?_⟩) (by assumption) ?_
  rotate_left
  · intro w0 hSw
    try dsimp only at hSw
    go_simp
    with_reducible rfl
  try simp only [Act.put]
  refine wpAnyH_take (i := 28) (v := ?_) rfl (by kernel_rfl) (by kernel_rfl) (by kernel_rfl) (fun _ _ _ h => h) (Or.inl ⟨by kernel_rfl, ?_⟩) (by assumption) ?_
  rotate_left
  · intro w0 hSw
    try dsimp only at hSw
    go_simp
    with_reducible rfl
  try simp only [Act.put]
  refine wpAnyH_take (i := 29) (v := ?_) rfl (by kernel_rfl) (by kernel_rfl) (by kernel_rfl) (fun _ _ _ h => h) (Or.inl ⟨by kernel_rfl, ?_⟩) (by assumption) ?_
  rotate_left
  · intro w0 hSw
    try dsimp only at hSw
    go_simp
    with_reducible rfl
  try simp only [Act.put]
  refine wpAnyH_take (i := 31) (v := ?_) rfl (by kernel_rfl) (by kernel_rfl) (by kernel_rfl) (fun _ _ _ h => h) (Or.inl ⟨by kernel_rfl, ?_⟩) (by assumption) ?_
  rotate_left
  · intro w0 hSw
    try dsimp only at hSw
    go_simp
    with_reducible rfl
  try simp only [Act.put]
  refine wpAnyH_ready (rs := [30, 32]) (by kernel_rfl) (by simp) ?_
  refine AllReadyH.cons rfl (fun K hK => ?_) (AllReadyH.cons rfl (fun K hK => ?_) AllReadyH.nil)
  · go_simp
    refine hK.out _ _ trivial (fun hHeld => ?_)
    clear hK K
    refine wpAnyH_ready (rs := [32]) (by kernel_rfl) (by simp) ?_
    refine AllReadyH.cons rfl (fun K hK => ?_) AllReadyH.nil
    go_simp
    refine hK.out _ _ trivial (fun hHeld => ?_)
    clear hK K
    refine wpAnyH_take (i := 33) (v := ?_) rfl (by kernel_rfl) (by kernel_rfl) (by kernel_rfl) (fun _ _ _ h => h) (Or.inl ⟨by kernel_rfl, ?_⟩) (by assumption) ?_
    rotate_left
    · intro w0 hSw
      try dsimp only at hSw
      go_simp
      with_reducible rfl
    try simp only [Act.put]
    refine wpAnyH_take (i := 34) (v := ?_) rfl (by kernel_rfl) (by kernel_rfl) (by kernel_rfl) (fun _ _ _ h => h) (Or.inl ⟨by kernel_rfl, ?_⟩) (by assumption) ?_
    rotate_left
    · intro w0 hSw
      try dsimp only at hSw
      go_simp
      with_reducible rfl
    try simp only [Act.put]
    refine wpAnyH_take (i := 35) (v := ?_) rfl (by kernel_rfl) (by kernel_rfl) (by kernel_rfl) (fun _ _ _ h => h) (Or.inl ⟨by kernel_rfl, ?_⟩) (by assumption) ?_
    rotate_left
    · intro w0 hSw
      try dsimp only at hSw
      go_simp
      with_reducible rfl
    try simp only [Act.put]
    refine wpAnyH_take (i := 36) (v := ?_) rfl (by kernel_rfl) (by kernel_rfl) (by kernel_rfl) (fun _ _ _ h => h) (Or.inl ⟨by kernel_rfl, ?_⟩) (by assumption) ?_
    rotate_left
    · intro w0 hSw
      try dsimp only at hSw
      go_simp
      with_reducible rfl
    try simp only [Act.put]
    refine wpAnyH_take (i := 37) (v := ?_) rfl (by kernel_rfl) (by kernel_rfl) (by kernel_rfl) (fun _ _ _ h => h) (Or.inl ⟨by kernel_rfl, ?_⟩) (by assumption) ?_
    rotate_left
    · intro w0 hSw
      try dsimp only at hSw
      go_simp
      with_reducible rfl
    try simp only [Act.put]
    refine wpAnyH_take (i := 38) (v := ?_) rfl (by kernel_rfl) (by kernel_rfl) (by kernel_rfl) (fun _ _ _ h => h) (Or.inl ⟨by kernel_rfl, ?_⟩) (by assumption) ?_
    rotate_left
    · intro w0 hSw
      try dsimp only at hSw
      go_simp
      with_reducible rfl
    try simp only [Act.put]
    refine wpAnyH_take (i := 39) (v := ?_) rfl (by kernel_rfl) (by kernel_rfl) (by kernel_rfl) (fun _ _ _ h => h) (Or.inl ⟨by kernel_rfl, ?_⟩) (by assumption) ?_
    rotate_left
    · intro w0 hSw
      try dsimp only at hSw
      go_simp
      with_reducible rfl
    try simp only [Act.put]
    refine wpAnyH_ready (rs := [40]) (by kernel_rfl) (by simp) ?_
    refine AllReadyH.cons rfl (fun K hK => ?_) AllReadyH.nil
    go_simp
    refine hK.out _ _ trivial (fun hHeld => ?_)
    clear hK K
    refine wpAnyH_take (i := 41) (v := ?_) rfl (by kernel_rfl) (by kernel_rfl) (by kernel_rfl) (fun _ _ _ h => h) (Or.inl ⟨by kernel_rfl, ?_⟩) (by assumption) ?_
    rotate_left
    · intro w0 hSw
      try dsimp only at hSw
      go_simp
      with_reducible rfl
    try simp only [Act.put]
    refine wpAnyH_take (i := 42) (v := ?_) rfl (by kernel_rfl) (by kernel_rfl) (by kernel_rfl) (fun _ _ _ h => h) (Or.inl ⟨by kernel_rfl, ?_⟩) (by assumption) ?_
    rotate_left
    · intro w0 hSw
      try dsimp only at hSw
      go_simp
      with_reducible rfl
    try simp only [Act.put]
    refine wpAnyH_take (i := 43) (v := ?_) rfl (by kernel_rfl) (by kernel_rfl) (by kernel_rfl) (fun _ _ _ h => h) (Or.inl ⟨by kernel_rfl, ?_⟩) (by assumption) ?_
    rotate_left
    · intro w0 hSw
      try dsimp only at hSw
      go_simp
      with_reducible rfl
    try simp only [Act.put]
    refine wpAnyH_take (i := 44) (v := ?_) rfl (by kernel_rfl) (by kernel_rfl) (by kernel_rfl) (fun _ _ _ h => h) (Or.inl ⟨by kernel_rfl, ?_⟩) (by assumption) ?_
    rotate_left
    · intro w0 hSw
      try dsimp only at hSw
      go_simp
      with_reducible rfl
    try simp only [Act.put]
    refine wpAnyH_ready (rs := [45]) (by kernel_rfl) (by simp) ?_
    refine AllReadyH.cons rfl (fun K hK => ?_) AllReadyH.nil
    go_simp
    go_wp2_with (go_at_call 19; refine Calls.mono HEN1.out ?_; rintro e w14 ⟨rfl, hb⟩
                 have HW14 : Hid (Below w.heap.size w w14) := HW13.out.drew.trans (hb.mono (by have := HWO.out; omega))
                 clear hb)
    refine hK.out _ _ trivial (fun hHeld => ?_)
    clear hK K
    refine wpAnyH_ready (rs := [46]) (by kernel_rfl) (by simp) ?_
    refine AllReadyH.cons rfl (fun K hK => ?_) AllReadyH.nil
    go_simp
    refine hK.out _ _ trivial (fun hHeld => ?_)
    clear hK K
    refine wpAnyH_ready (rs := [47]) (by kernel_rfl) (by simp) ?_
    refine AllReadyH.cons rfl (fun K hK => ?_) AllReadyH.nil
    go_simp
    refine hK.out _ _ trivial (fun hHeld => ?_)
    clear hK K
    refine wpAnyH_done (by kernel_rfl) ?_ _
    go_wp2
    go_ret
    exact ⟨rfl, HW14.out⟩
  · go_simp
    refine hK.out _ _ trivial (fun hHeld => ?_)
    clear hK K
    refine wpAnyH_ready (rs := [30]) (by kernel_rfl) (by simp) ?_
    refine AllReadyH.cons rfl (fun K hK => ?_) AllReadyH.nil
    go_simp
    refine hK.out _ _ trivial (fun hHeld => ?_)
    clear hK K
    refine wpAnyH_take (i := 33) (v := ?_) rfl (by kernel_rfl) (by kernel_rfl) (by kernel_rfl) (fun _ _ _ h => h) (Or.inl ⟨by kernel_rfl, ?_⟩) (by assumption) ?_
    rotate_left
    · intro w0 hSw
      try dsimp only at hSw
      go_simp
      with_reducible rfl
    try simp only [Act.put]
    refine wpAnyH_take (i := 34) (v := ?_) rfl (by kernel_rfl) (by kernel_rfl) (by kernel_rfl) (fun _ _ _ h => h) (Or.inl ⟨by kernel_rfl, ?_⟩) (by assumption) ?_
    rotate_left
    · intro w0 hSw
      try dsimp only at hSw
      go_simp
      with_reducible rfl
    try simp only [Act.put]
    refine wpAnyH_take (i := 35) (v := ?_) rfl (by kernel_rfl) (by kernel_rfl) (by kernel_rfl) (fun _ _ _ h => h) (Or.inl ⟨by kernel_rfl, ?_⟩) (by assumption) ?_
    rotate_left
    · intro w0 hSw
      try dsimp only at hSw
      go_simp
      with_reducible rfl
    try simp only [Act.put]
    refine wpAnyH_take (i := 36) (v := ?_) rfl (by kernel_rfl) (by kernel_rfl) (by kernel_rfl) (fun _ _ _ h => h) (Or.inl ⟨by kernel_rfl, ?_⟩) (by assumption) ?_
    rotate_left
    · intro w0 hSw
      try dsimp only at hSw
      go_simp
      with_reducible rfl
    try simp only [Act.put]
    refine wpAnyH_take (i := 37) (v := ?_) rfl (by kernel_rfl) (by kernel_rfl) (by kernel_rfl) (fun _ _ _ h => h) (Or.inl ⟨by kernel_rfl, ?_⟩) (by assumption) ?_
    rotate_left
    · intro w0 hSw
      try dsimp only at hSw
      go_simp
      with_reducible rfl
    try simp only [Act.put]
    refine wpAnyH_take (i := 38) (v := ?_) rfl (by kernel_rfl) (by kernel_rfl) (by kernel_rfl) (fun _ _ _ h => h) (Or.inl ⟨by kernel_rfl, ?_⟩) (by assumption) ?_
    rotate_left
    · intro w0 hSw
      try dsimp only at hSw
      go_simp
      with_reducible rfl
    try simp only [Act.put]
    refine wpAnyH_take (i := 39) (v := ?_) rfl (by kernel_rfl) (by kernel_rfl) (by kernel_rfl) (fun _ _ _ h => h) (Or.inl ⟨by kernel_rfl, ?_⟩) (by assumption) ?_
    rotate_left
    · intro w0 hSw
      try dsimp only at hSw
      go_simp
      with_reducible rfl
    try simp only [Act.put]
    refine wpAnyH_ready (rs := [40]) (by kernel_rfl) (by simp) ?_
    refine AllReadyH.cons rfl (fun K hK => ?_) AllReadyH.nil
    go_simp
    refine hK.out _ _ trivial (fun hHeld => ?_)
    clear hK K
    refine wpAnyH_take (i := 41) (v := ?_) rfl (by kernel_rfl) (by kernel_rfl) (by kernel_rfl) (fun _ _ _ h => h) (Or.inl ⟨by kernel_rfl, ?_⟩) (by assumption) ?_
    rotate_left
    · intro w0 hSw
      try dsimp only at hSw
      go_simp
      with_reducible rfl
    try simp only [Act.put]
    refine wpAnyH_take (i := 42) (v := ?_) rfl (by kernel_rfl) (by kernel_rfl) (by kernel_rfl) (fun _ _ _ h => h) (Or.inl ⟨by kernel_rfl, ?_⟩) (by assumption) ?_
    rotate_left
    · intro w0 hSw
      try dsimp only at hSw
      go_simp
      with_reducible rfl
    try simp only [Act.put]
    refine wpAnyH_take (i := 43) (v := ?_) rfl (by kernel_rfl) (by kernel_rfl) (by kernel_rfl) (fun _ _ _ h => h) (Or.inl ⟨by kernel_rfl, ?_⟩) (by assumption) ?_
    rotate_left
    · intro w0 hSw
      try dsimp only at hSw
      go_simp
      with_reducible rfl
    try simp only [Act.put]
    refine wpAnyH_take (i := 44) (v := ?_) rfl (by kernel_rfl) (by kernel_rfl) (by kernel_rfl) (fun _ _ _ h => h) (Or.inl ⟨by kernel_rfl, ?_⟩) (by assumption) ?_
    rotate_left
    · intro w0 hSw
      try dsimp only at hSw
      go_simp
      with_reducible rfl
    try simp only [Act.put]
    refine wpAnyH_ready (rs := [45]) (by kernel_rfl) (by simp) ?_
    refine AllReadyH.cons rfl (fun K hK => ?_) AllReadyH.nil
    go_simp
    go_wp2_with (go_at_call 19; refine Calls.mono HEN1.out ?_; rintro e w14 ⟨rfl, hb⟩
                 have HW14 : Hid (Below w.heap.size w w14) := HW13.out.drew.trans (hb.mono (by have := HWO.out; omega))
                 clear hb)
    refine hK.out _ _ trivial (fun hHeld => ?_)
    clear hK K
    refine wpAnyH_ready (rs := [46]) (by kernel_rfl) (by simp) ?_
    refine AllReadyH.cons rfl (fun K hK => ?_) AllReadyH.nil
    go_simp
    refine hK.out _ _ trivial (fun hHeld => ?_)
    clear hK K
    refine wpAnyH_ready (rs := [47]) (by kernel_rfl) (by simp) ?_
    refine AllReadyH.cons rfl (fun K hK => ?_) AllReadyH.nil
    go_simp
    refine hK.out _ _ trivial (fun hHeld => ?_)
    clear hK K
    refine wpAnyH_done (by kernel_rfl) ?_ _
    go_wp2
    go_ret
    exact ⟨rfl, HW14.out⟩
end Go.Proofs.Ytaehchijeinloaa
