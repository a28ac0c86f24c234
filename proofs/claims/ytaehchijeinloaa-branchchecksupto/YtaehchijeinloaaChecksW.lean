/- BranchChecks: the walk. -/
import Derived.Test.YtaehchijeinloaaAlive
import Derived.Test.YtaehchijeinloaaSpansW1
import Derived.Test.YtaehchijeinloaaTellC
namespace Go.Proofs.Ytaehchijeinloaa
open Go.RowKit

theorem weightL_lens {L M : List Kc} (h : M.map (fun e => e.k.length) = L.map (fun e => e.k.length)) : weightL M = weightL L := by
  have e : ∀ N : List Kc, weightL N = ((N.map fun e => e.k.length).map fun n => 1 + n).sum := fun N => by rw [List.map_map]; rfl
  rw [e, e, h]
theorem light_lens {ps qs : List Int} {L M : List Kc} (hp : qs.length = ps.length) (h : M.map (fun e => e.k.length) = L.map (fun e => e.k.length)) (hl : Light ps L) : Light qs M := by
  unfold Light at hl ⊢
  rw [hp, weightL_lens h]; exact hl

set_option maxHeartbeats 3200000 in
set_option maxRecDepth 100000 in
theorem checks_walk {w : World} {v u k : Value} {ps qs : List Int} {L M : List Kc} {z : Int} {key : Key} (h : KidsAt w.heap.size w v ps L) (hu : KidsAt w.heap.size w u qs M) (hk : KeyAt w k key) :
    Calls Try.prog 4 #[.int .i64 z, v, u, k] w fun e w' => e = .returned (.bool true) ∧ Below w.heap.size w w' := by
  obtain ⟨vp, vk, rfl, h1, h2⟩ := id h.is
  obtain ⟨a1, c1, rfl⟩ := h1.form
  obtain ⟨a2, c2, rfl⟩ := h2.form
  obtain ⟨up, uk, rfl, h3, h4⟩ := id hu.is
  obtain ⟨a3, c3, rfl⟩ := h3.form
  obtain ⟨a4, c4, rfl⟩ := h4.form
  obtain ⟨a5, c5, rfl, _⟩ := id hk.is
  obtain ⟨W, hW⟩ : ∃ W, W = (w.alloc (.cells #[.slice a1 ps.length c1, .slice a2 L.length c2] 26)).alloc (.cells #[.slice a3 qs.length c3, .slice a4 M.length c4] 26) := ⟨_, rfl⟩
  have HBW : Hid (Below w.heap.size w W) := by rw [hW]; exact (below_new w _).alloc (by simp) _
  have HX : Hid (KBox W w.heap.size (.slice a1 ps.length c1) (.slice a2 L.length c2)) := by
    rw [hW]; exact (KBox.new w _ _).here (below_new _ _)
  have HY : Hid (KBox W (w.heap.size + 1) (.slice a3 qs.length c3) (.slice a4 M.length c4)) := by
    rw [hW]
    have := KBox.new (w.alloc (.cells #[.slice a1 ps.length c1, .slice a2 L.length c2] 26)) (.slice a3 qs.length c3) (.slice a4 M.length c4)
    show KBox _ _ _ _
    simpa using this
  have HK0 : Hid (KidsAt W.heap.size W (.agg #[.slice a1 ps.length c1, .slice a2 L.length c2]) ps L) := h.here HBW.out
  have HA : Hid (∀ W', Below W.heap.size W W' → KidsAt W'.heap.size W' (.agg #[.slice a1 ps.length c1, .slice a2 L.length c2]) ps L) := fun W' hb => HK0.out.here hb
  have HB : Hid (∀ W', Below W.heap.size W W' → KidsAt W'.heap.size W' (.agg #[.slice a3 qs.length c3, .slice a4 M.length c4]) qs M) := fun W' hb => (hu.here HBW.out).here hb
  have HKY : Hid (∀ W', Below W.heap.size W W' → KeyAt W' (.slice a5 key.length c5) key) := fun W' hb => (hk.here HBW.out).here hb
  have HCL : Hid (∀ W', Below W.heap.size W W' → W'.cell? ⟨w.heap.size, 0, none⟩ = some (.slice a1 ps.length c1) ∧ W'.cell? ⟨w.heap.size, 1, none⟩ = some (.slice a2 L.length c2) ∧ W'.cell? ⟨w.heap.size + 1, 0, none⟩ = some (.slice a3 qs.length c3) ∧ W'.cell? ⟨w.heap.size + 1, 1, none⟩ = some (.slice a4 M.length c4)) := fun W' hb =>
    ⟨(HX.out.here hb).cells.1, (HX.out.here hb).cells.2, (HY.out.here hb).cells.1, (HY.out.here hb).cells.2⟩
  clear h hu hk h1 h2 h3 h4 HX HY
  go_enter Try.func4, Try.ntmps4
  go_wp2_with fail
  rw [← hW]
  clear hW
  refine (alive_any W).mono ?_
  rintro e wA ⟨rfl, hb⟩
  have HWA : Hid (Below W.heap.size W wA) := hb
  clear hb
  obtain ⟨k0, k1, k2, k3⟩ := HCL.out wA HWA.out
  go_wp2_with fail
  refine (weight_any (HA.out wA HWA.out)).mono ?_
  rintro e wB ⟨⟨z1, rfl, hz⟩, hb⟩
  have HZ1 : Hid (z1 ≤ 2147483647 → z1 = ps.length + weightL L) := hz
  have HWB : Hid (Below W.heap.size W wB) := HWA.out.trans (hb.mono HWA.out.size)
  clear hz hb k0 k1 k2 k3
  obtain ⟨k0, k1, k2, k3⟩ := HCL.out wB HWB.out
  by_cases hle : z1 ≤ 2147483647
  case neg =>
    have hzz : (2147483647 : Int) < (z1 : Int) := by omega
    go_wp2
    go_ret
    exact ⟨rfl, HBW.out.trans (HWB.out.mono HBW.out.size)⟩
  case pos =>
  have hzz : ¬ (2147483647 : Int) < (z1 : Int) := by omega
  have HL1 : Hid (Light ps L) := by have := HZ1.out hle; show ps.length + weightL L ≤ _; omega
  clear HZ1
  go_wp2_with fail
  refine (weight_any (HB.out wB HWB.out)).mono ?_
  rintro e wC ⟨⟨z2, rfl, hz⟩, hb⟩
  have HZ2 : Hid (z2 ≤ 2147483647 → z2 = qs.length + weightL M) := hz
  have HWC : Hid (Below W.heap.size W wC) := HWB.out.trans (hb.mono HWB.out.size)
  clear hz hb k0 k1 k2 k3
  obtain ⟨k0, k1, k2, k3⟩ := HCL.out wC HWC.out
  by_cases hle2 : z2 ≤ 2147483647
  case neg =>
    have hzz2 : (2147483647 : Int) < (z2 : Int) := by omega
    go_wp2
    go_ret
    exact ⟨rfl, HBW.out.trans (HWC.out.mono HBW.out.size)⟩
  case pos =>
  have hzz2 : ¬ (2147483647 : Int) < (z2 : Int) := by omega
  have HL2 : Hid (Light qs M) := by have := HZ2.out hle2; show qs.length + weightL M ≤ _; omega
  clear HZ2
  go_wp2_with fail
  refine (lend_any (HA.out wC HWC.out) HL1.out).mono ?_
  rintro e w3 ⟨b, vq, F, rfl, hlo, hfk, hb⟩
  have HLO : Hid (LoanAt wC.heap.size w3 b vq ps F) := hlo
  have HFK : Hid (F.map Lk.k = keysOf L) := hfk
  have HC3 : Hid (Below wC.heap.size wC w3) := hb
  have HW3 : Hid (Below W.heap.size W w3) := HWC.out.trans (hb.mono HWC.out.size)
  have hs3 : wC.heap.size ≤ w3.heap.size := HC3.out.size
  have hs03 : W.heap.size ≤ w3.heap.size := HW3.out.size
  have hs0C : W.heap.size ≤ wC.heap.size := HWC.out.size
  clear hlo hfk hb k0 k1 k2 k3 hzz hzz2 hle hle2
  obtain ⟨gp, gq, cq, e0⟩ : ∃ gp gq cq, vq = .agg #[.slice (some ⟨gp, 0, none⟩) ps.length (ps.length + 3), .slice (some ⟨gq, 0, none⟩) L.length cq] := by
    obtain ⟨gp, gl2, cl2, _, _, _, e, _⟩ := HLO.out.is
    have hfl : F.length = L.length := by have := congrArg List.length HFK.out; simpa [keysOf] using this
    rw [hfl] at e
    exact ⟨gp, gl2, cl2, e⟩
  subst e0
  have HKL : Hid (∀ W', Below w3.heap.size w3 W' → KidsAt W'.heap.size W' (.agg #[.slice (some ⟨gp, 0, none⟩) ps.length (ps.length + 3), .slice (some ⟨gq, 0, none⟩) L.length cq]) ps (F.map Lk.kc)) := fun W' hb => by
    have hfl : F.length = L.length := by have := congrArg List.length HFK.out; simpa [keysOf] using this
    obtain ⟨_, _, e, h1, h2⟩ := HK0.out.is
    cases e
    exact LoanAt.kids (HLO.out.here hb) h1.short h1.fits (by rw [hfl]; exact h2.short)
  have HBC : Hid (∀ W', Below w3.heap.size w3 W' → W'.cell? ⟨b, 0, none⟩ = some (.slice (some ⟨gp, 0, none⟩) ps.length (ps.length + 3)) ∧ W'.cell? ⟨b, 1, none⟩ = some (.slice (some ⟨gq, 0, none⟩) L.length cq)) := fun W' hb => by
    obtain ⟨gp', gl2, cl2, _, _, _, e, hbx, _⟩ := (HLO.out.here hb).is
    simp only [Value.agg.injEq, Array.mk.injEq, List.cons.injEq, Value.slice.injEq, Option.some.injEq, Addr.mk.injEq, and_true] at e
    obtain ⟨⟨rfl, _⟩, ⟨rfl, h9, rfl⟩⟩ := e
    obtain ⟨h1, h2, _⟩ := hbx.cells
    rw [← h9] at h2
    exact ⟨h1, h2⟩
  have hbl : b < w3.heap.size := by
    obtain ⟨_, _, _, _, _, _, _, hbx, _⟩ := HLO.out.is
    exact hbx.lt
  obtain ⟨ck, hck⟩ : ∃ ck, ck = checkK z (kd ps L) := ⟨_, rfl⟩
  obtain ⟨T, hT⟩ : ∃ T, T = if ck = 0 then encK (kd ps L) else [] := ⟨_, rfl⟩
  have HT1 : Hid (∀ W', Below w3.heap.size w3 W' → Calls Try.prog 12 #[.int .i64 z, .agg #[.slice (some ⟨gp, 0, none⟩) ps.length (ps.length + 3), .slice (some ⟨gq, 0, none⟩) L.length cq], .agg #[.slice a1 ps.length c1, .slice a2 L.length c2], .slice a5 key.length c5] W' fun r w' => r = .returned (.bool true) ∧ Below W'.heap.size W' w') := fun W' hb =>
    told_any (HKL.out W' hb) (HA.out W' (HW3.out.trans (hb.mono hs03))) (kc_keys HFK.out ps) HL1.out (HKY.out W' (HW3.out.trans (hb.mono hs03)))
  have HT2 : Hid (∀ W', Below W.heap.size W W' → Calls Try.prog 12 #[.int .i64 z, .agg #[.slice a3 qs.length c3, .slice a4 M.length c4], .agg #[.slice a3 qs.length c3, .slice a4 M.length c4], .slice a5 key.length c5] W' fun r w' => r = .returned (.bool true) ∧ Below W'.heap.size W' w') := fun W' hb =>
    told_any (HB.out W' hb) (HB.out W' hb) rfl HL2.out (HKY.out W' hb)
  have HE1 : Hid (∀ W', Below w3.heap.size w3 W' → Calls Try.prog 13 #[.int .i64 z, .agg #[.slice (some ⟨gp, 0, none⟩) ps.length (ps.length + 3), .slice (some ⟨gq, 0, none⟩) L.length cq]] W' fun r w' => ∃ v', r = .returned (.tuple #[v', .int .i64 (ck : Nat)]) ∧ NewKey W'.heap.size w' v' T ∧ Below W'.heap.size W' w') := fun W' hb => by
    have h := encode_any (z := z) (HKL.out W' hb)
    rw [kc_keys HFK.out, ← hck, ← hT] at h; exact h
  have HE2 : Hid (∀ W', Below W.heap.size W W' → Calls Try.prog 14 #[.int .i64 z, .agg #[.slice a1 ps.length c1, .slice a2 L.length c2]] W' fun r w' => ∃ v', r = .returned (.tuple #[v', .int .i64 (ck : Nat)]) ∧ NewKey W'.heap.size w' v' T ∧ Below W'.heap.size W' w') := fun W' hb => by
    have h := refEncode_any (z := z) (HA.out W' hb) HL1.out
    rw [← hck, ← hT] at h; exact h
  clear hck hT
  -- told, the first time
  obtain ⟨k0, k1, _⟩ := HCL.out w3 HW3.out
  obtain ⟨b0, b1⟩ := HBC.out w3 (Below.refl _ _)
  go_upto_region 5 with fail
  go_region_held_law (fun W' => W'.cell? ⟨w.heap.size, 0, none⟩ = some (.slice a1 ps.length c1) ∧ W'.cell? ⟨w.heap.size, 1, none⟩ = some (.slice a2 L.length c2) ∧ W'.cell? ⟨b, 0, none⟩ = some (.slice (some ⟨gp, 0, none⟩) ps.length (ps.length + 3)) ∧ W'.cell? ⟨b, 1, none⟩ = some (.slice (some ⟨gq, 0, none⟩) L.length cq)) (first | (refine ⟨?_, ?_, ?_, ?_⟩ <;> with_reducible assumption) | (go_keep; done))
    (first | (go_at_call 12; refine Calls.mono (HT1.out _ (by first | exact Below.refl _ _ | exact (Below.refl _ _).drew)) ?_
              rintro e w4 ⟨rfl, hb⟩
              have hb' : Below w3.heap.size w3 w4 := by first | exact hb | exact ((Below.refl _ _).drew).trans hb
              have H34 : Hid (Below w3.heap.size w3 w4) := hb'
              obtain ⟨k0', k1', _⟩ := HCL.out w4 (HW3.out.trans (hb'.mono hs03))
              obtain ⟨b0', b1'⟩ := HBC.out w4 hb'
              clear hb hb'))
  have hs34 : w3.heap.size ≤ w4.heap.size := H34.out.size
  clear HT1 HL2 k0' k1' b0' b1' k0 k1 b0 b1
  -- Encode, and others between
  obtain ⟨b0, b1⟩ := HBC.out w4 H34.out
  go_wp2_with fail
  refine Calls.mono (HE1.out w4 H34.out) ?_
  rintro e w5 ⟨va, rfl, hn, hb⟩
  obtain ⟨aa, ca, rfl⟩ := hn.at.in.form
  have HNA : Hid (NewKey w4.heap.size w5 (.slice aa T.length ca) T) := hn
  have H35 : Hid (Below w3.heap.size w3 w5) := H34.out.trans (hb.mono hs34)
  have H45 : Hid (Below w4.heap.size w4 w5) := hb
  have hs45 : w4.heap.size ≤ w5.heap.size := hb.size
  have hs35 : w3.heap.size ≤ w5.heap.size := H35.out.size
  have HOW : Hid (∀ g, (Value.slice aa T.length ca).ownBlock = some g → g < w5.heap.size) := fun g hg => (own_type hn.1 g hg).1
  clear hn hb b0 b1
  obtain ⟨_, _, m0, m1⟩ := HCL.out w5 (HW3.out.trans (H35.out.mono hs03))
  go_wp2_with fail
  refine Calls.mono (HT2.out w5 (HW3.out.trans (H35.out.mono hs03))) ?_
  rintro e w6 ⟨rfl, hb⟩
  have H56 : Hid (Below w5.heap.size w5 w6) := hb
  have H36 : Hid (Below w3.heap.size w3 w6) := H35.out.trans (hb.mono hs35)
  have hs56 : w5.heap.size ≤ w6.heap.size := hb.size
  have hs36 : w3.heap.size ≤ w6.heap.size := H36.out.size
  clear hb m0 m1 HT2
  obtain ⟨b0, b1⟩ := HBC.out w6 H36.out
  go_wp2_with fail
  refine Calls.mono (HE1.out w6 H36.out) ?_
  rintro e w7 ⟨vb, rfl, hn, hb⟩
  obtain ⟨ab, cb, rfl⟩ := hn.at.in.form
  have HNB : Hid (NewKey w6.heap.size w7 (.slice ab T.length cb) T) := hn
  have H67 : Hid (Below w6.heap.size w6 w7) := hb
  have H37 : Hid (Below w3.heap.size w3 w7) := H36.out.trans (hb.mono hs36)
  have hs67 : w6.heap.size ≤ w7.heap.size := hb.size
  have hs37 : w3.heap.size ≤ w7.heap.size := H37.out.size
  clear hn hb b0 b1 HE1
  obtain ⟨k0, k1, _⟩ := HCL.out w7 (HW3.out.trans (H37.out.mono hs03))
  go_wp2_with fail
  refine Calls.mono (HE2.out w7 (HW3.out.trans (H37.out.mono hs03))) ?_
  rintro e w8 ⟨vw, rfl, hn, hb⟩
  obtain ⟨aw, cw, rfl⟩ := hn.at.in.form
  have HNW8 : Hid (NewKey w7.heap.size w8 (.slice aw T.length cw) T) := hn
  have H38 : Hid (Below w3.heap.size w3 w8) := H37.out.trans (hb.mono hs37)
  have HNA8 : Hid (NewKey w4.heap.size w8 (.slice aa T.length ca) T) := (HNA.out.here (H56.out.trans (H67.out.mono hs56))).here hb
  have HNB8 : Hid (NewKey w6.heap.size w8 (.slice ab T.length cb) T) := HNB.out.here hb
  have hs38 : w3.heap.size ≤ w8.heap.size := H38.out.size
  have hs78 : w7.heap.size ≤ w8.heap.size := hb.size
  clear hn hb k0 k1 HE2 HNA HNB
  have e1 := conv_key HNA8.out.at
  have e2 := conv_key HNB8.out.at
  have e3 := conv_key HNW8.out.at
  have s1 := strB_eq T T
  have s2 := strB_ne T T
  rw [decide_eq_true rfl] at s1 s2
  have hnn : ((ck : Int) != (ck : Int)) = false := by simp
  generalize strB T = S at e1 e2 e3 s1 s2
  have hTs : T.length ≤ 140737488355328 := HNA8.out.2
  go_wp2_with fail
  clear e1 e2 e3 s1 s2
  -- the owner writes into what came out
  go_loopw [19] (fun s wx => ∃ n : Nat, n ≤ T.length ∧ s = .int .i64 n ∧ Mid w4.heap.size w5.heap.size w8 wx ∧ KeyLen w4.heap.size wx (.slice aa T.length ca) T.length) (fun s _ => T.length - (intOf s).toNat)
  case atStart => exact ⟨0, by omega, rfl, ⟨Below.refl _ _, fun _ _ _ => rfl⟩, ⟨_, rfl, HNA8.out⟩⟩
  case round =>
    obtain ⟨n, hn, rfl, hm, hk1⟩ := hrel
    have HM : Hid (Mid w4.heap.size w5.heap.size w8 wr) := hm
    have HK1 : Hid (KeyLen w4.heap.size wr (.slice aa T.length ca) T.length) := hk1
    clear hm hk1
    by_cases hlt : n < T.length
    · have hz : (n : Int) < (T.length : Int) := by omega
      obtain ⟨kk, hkl, hnk⟩ := HK1.out.is
      obtain ⟨g, c', e1, h7, h8, h6⟩ := hnk.full (by omega)
      rw [hkl] at e1
      simp only [Value.slice.injEq] at e1
      obtain ⟨rfl, h9, rfl⟩ := e1
      clear h9
      obtain ⟨x, hx⟩ : ∃ x, kk[n]? = some x := ⟨kk[n]'(by omega), List.getElem?_eq_getElem _⟩
      obtain ⟨c0, f0⟩ := hnk.byte hx
      have HG : Hid (g < w5.heap.size) := HOW.out g rfl
      have HK2 : Hid (KeyLen w4.heap.size (wr.setCell ⟨g, n, none⟩ (.int .u8 7)) (.slice (some ⟨g, 0, none⟩) T.length ca) T.length) := ⟨_, by rw [List.length_set]; exact hkl, hnk.put (x := 7) hlt⟩
      have HM2 : Hid (Mid w4.heap.size w5.heap.size w8 (wr.setCell ⟨g, n, none⟩ (.int .u8 7))) := HM.out.trans ((Only.set g n wr _).mid h8 HG.out)
      clear hnk hkl hx h6 h7 h8 kk
      go_wp2
      exact ⟨⟨n + 1, by omega, by go_num, HM2.out, HK2.out⟩, by simp [intOf]; omega⟩
    · have hz : ¬ (n : Int) < (T.length : Int) := by omega
      obtain ⟨wx, rfl⟩ : ∃ wx, wx = wr := ⟨_, rfl⟩
      have H3X : Hid (Below w3.heap.size w3 wx) := H38.out.trans (HM.out.low.mono hs34)
      have HWX : Hid (Below W.heap.size W wx) := HW3.out.trans (H3X.out.mono hs03)
      have HNBX : Hid (NewKey w6.heap.size wx (.slice ab T.length cb) T) := HNB8.out.mid HM.out hs56
      have HNWX : Hid (NewKey w7.heap.size wx (.slice aw T.length cw) T) := HNW8.out.mid HM.out (Nat.le_trans hs56 hs67)
      have hs3X : w3.heap.size ≤ wx.heap.size := H3X.out.size
      clear HNA8 HNB8 HNW8 HK1 HM
      obtain ⟨k0, k1, _⟩ := HCL.out wx HWX.out
      have HST : Hid _ := stays_any HLO.out H3X.out hs3 HFK.out ((HK0.out.below HWX.out).mono hs0C) (by have := HL1.out; unfold Light at this; omega) (by have := HL1.out; unfold Light at this; have := weightL_length L; omega)
      go_wp2_with fail
      refine Calls.mono HST.out ?_
      rintro e w9 ⟨rfl, hm, ps', L', hkk, hpl, hll, x, y, hxy, c0, c1x⟩
      simp only [Value.agg.injEq, Array.mk.injEq, List.cons.injEq, and_true] at hxy
      obtain ⟨rfl, rfl⟩ := hxy
      have HW9 : Hid (Below W.heap.size W w9) := HWX.out.trans (hm.low.mono hs0C)
      have HNB9 : Hid (NewKey w6.heap.size w9 (.slice ab T.length cb) T) := HNBX.out.mid hm hs36
      have HNW9 : Hid (NewKey w7.heap.size w9 (.slice aw T.length cw) T) := HNWX.out.mid hm hs37
      have HL9 : Hid (Light ps' L') := light_lens hpl hll HL1.out
      have HK9 : Hid (∀ W', Below w9.heap.size w9 W' → KidsAt W'.heap.size W' (.agg #[.slice (some ⟨gp, 0, none⟩) ps.length (ps.length + 3), .slice (some ⟨gq, 0, none⟩) L.length cq]) ps' L') := fun W' hb => hkk.here hb
      have hs09 : W.heap.size ≤ w9.heap.size := HW9.out.size
      have hsb9 : b < w9.heap.size := Nat.lt_of_lt_of_le hbl (Nat.le_trans hs3X hm.low.size)
      have HB9 : Hid (∀ W', Below w9.heap.size w9 W' → W'.cell? ⟨b, 0, none⟩ = some (.slice (some ⟨gp, 0, none⟩) ps.length (ps.length + 3)) ∧ W'.cell? ⟨b, 1, none⟩ = some (.slice (some ⟨gq, 0, none⟩) L.length cq)) := fun W' hb => ⟨(hb.cell hsb9).trans c0, (hb.cell hsb9).trans c1x⟩
      obtain ⟨cj, hcj⟩ : ∃ ck, ck = checkK z (kd ps' L') := ⟨_, rfl⟩
      obtain ⟨U, hU⟩ : ∃ T, T = if cj = 0 then encK (kd ps' L') else [] := ⟨_, rfl⟩
      have HT3 : Hid (∀ W', Below w9.heap.size w9 W' → Calls Try.prog 12 #[.int .i64 z, .agg #[.slice (some ⟨gp, 0, none⟩) ps.length (ps.length + 3), .slice (some ⟨gq, 0, none⟩) L.length cq], .agg #[.slice (some ⟨gp, 0, none⟩) ps.length (ps.length + 3), .slice (some ⟨gq, 0, none⟩) L.length cq], .slice a5 key.length c5] W' fun r w' => r = .returned (.bool true) ∧ Below W'.heap.size W' w') := fun W' hb =>
        told_any (HK9.out W' hb) (HK9.out W' hb) rfl HL9.out (HKY.out W' (HW9.out.trans (hb.mono hs09)))
      have HE3 : Hid (∀ W', Below w9.heap.size w9 W' → Calls Try.prog 13 #[.int .i64 z, .agg #[.slice (some ⟨gp, 0, none⟩) ps.length (ps.length + 3), .slice (some ⟨gq, 0, none⟩) L.length cq]] W' fun r w' => ∃ v', r = .returned (.tuple #[v', .int .i64 (cj : Nat)]) ∧ NewKey W'.heap.size w' v' U ∧ Below W'.heap.size W' w') := fun W' hb => by
        have h := encode_any (z := z) (HK9.out W' hb)
        rw [← hcj, ← hU] at h; exact h
      have HE4 : Hid (∀ W', Below w9.heap.size w9 W' → Calls Try.prog 14 #[.int .i64 z, .agg #[.slice (some ⟨gp, 0, none⟩) ps.length (ps.length + 3), .slice (some ⟨gq, 0, none⟩) L.length cq]] W' fun r w' => ∃ v', r = .returned (.tuple #[v', .int .i64 (cj : Nat)]) ∧ NewKey W'.heap.size w' v' U ∧ Below W'.heap.size W' w') := fun W' hb => by
        have h := refEncode_any (z := z) (HK9.out W' hb) HL9.out
        rw [← hcj, ← hU] at h; exact h
      clear hm hkk hpl hll c0 c1x hcj hU HST k0 k1 HNBX HNWX
      obtain ⟨b0, b1⟩ := HB9.out w9 (Below.refl _ _)
      go_upto_region 17 with fail
      go_region_held_law (fun W' => W'.cell? ⟨b, 0, none⟩ = some (.slice (some ⟨gp, 0, none⟩) ps.length (ps.length + 3)) ∧ W'.cell? ⟨b, 1, none⟩ = some (.slice (some ⟨gq, 0, none⟩) L.length cq)) (first | (refine ⟨?_, ?_⟩ <;> with_reducible assumption) | (go_keep; done))
        (first | (go_at_call 12; refine Calls.mono (HT3.out _ (by first | exact Below.refl _ _ | exact (Below.refl _ _).drew)) ?_
                  rintro e w10 ⟨rfl, hb⟩
                  have hb' : Below w9.heap.size w9 w10 := by first | exact hb | exact ((Below.refl _ _).drew).trans hb
                  have H910 : Hid (Below w9.heap.size w9 w10) := hb'
                  obtain ⟨b0', b1'⟩ := HB9.out w10 hb'
                  clear hb hb'))
      have hs910 : w9.heap.size ≤ w10.heap.size := H910.out.size
      clear HT3 b0 b1
      go_wp2_with fail
      refine Calls.mono (HE3.out w10 H910.out) ?_
      rintro e w11 ⟨vc, rfl, hn, hb⟩
      obtain ⟨ac, cc, rfl⟩ := hn.at.in.form
      have HNC : Hid (NewKey w10.heap.size w11 (.slice ac U.length cc) U) := hn
      have H911 : Hid (Below w9.heap.size w9 w11) := H910.out.trans (hb.mono hs910)
      have hs911 : w9.heap.size ≤ w11.heap.size := H911.out.size
      clear hn hb b0' b1' HE3
      obtain ⟨b0, b1⟩ := HB9.out w11 H911.out
      go_wp2_with fail
      refine Calls.mono (HE4.out w11 H911.out) ?_
      rintro e w12 ⟨vd, rfl, hn, hb⟩
      obtain ⟨ad, cd, rfl⟩ := hn.at.in.form
      have H912 : Hid (Below w9.heap.size w9 w12) := H911.out.trans (hb.mono hs911)
      have e1 := conv_key (HNC.out.here hb).at
      have e2 := conv_key hn.at
      have e3 := conv_key (HNB9.out.here H912.out).at
      have e4 := conv_key (HNW9.out.here H912.out).at
      have s1 := strB_eq T T
      have s2 := strB_eq U U
      rw [decide_eq_true rfl] at s1 s2
      generalize strB T = S at e3 e4 s1
      generalize strB U = S' at e1 e2 s2
      clear hn hb b0 b1 HE4
      go_wp2
      go_ret
      exact ⟨by simp, HBW.out.trans ((HW9.out.trans (H912.out.mono hs09)).mono HBW.out.size)⟩
end Go.Proofs.Ytaehchijeinloaa
