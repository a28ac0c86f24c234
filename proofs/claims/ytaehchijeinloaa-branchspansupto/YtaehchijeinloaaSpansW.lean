/- BranchSpans: the walk. -/
import Derived.Test.YtaehchijeinloaaAlive
import Derived.Test.YtaehchijeinloaaSpansW1
import Derived.Deep.DeepCutAuto
import Derived.Deep.RegionWith
namespace Go.Proofs.Ytaehchijeinloaa
open Go.RowKit

set_option maxHeartbeats 3200000 in
set_option maxRecDepth 100000 in
theorem spans_walk {w : World} {v u : Value} {ps : List Int} {L : List Kc} {r : Rg} {i : Int} (h : KidsAt w.heap.size w v ps L) (hu : RangeAt w u r) (hr : r.Short 140737488351232) (hi : (Lit.int .i64 i).wf = true) :
    Calls Try.prog 6 #[v, u, .int .i64 i] w fun e w' => e = .returned (.bool true) ∧ Below w.heap.size w w' := by
  obtain ⟨i5, hi5, hz50, hz51, hz52⟩ := info5'
  have hks := h
  obtain ⟨vp, vk, rfl, h1, h2⟩ := h.is
  obtain ⟨a1, c1, rfl⟩ := h1.form
  obtain ⟨a2, c2, rfl⟩ := h2.form
  have hus := hu
  obtain ⟨u1, u2, rfl, hu1, hu2⟩ := hu.is
  obtain ⟨a3, c3, rfl⟩ := hu1.in.form
  obtain ⟨a4, c4, rfl⟩ := hu2.in.form
  obtain ⟨W, hW⟩ : ∃ W, W = (w.alloc (.cells #[.slice a1 ps.length c1, .slice a2 L.length c2] 26)).alloc (.cells #[.slice a3 r.lo.length c3, .slice a4 r.hi.length c4, .bool r.all] 47) := ⟨_, rfl⟩
  have HBW : Hid (Below w.heap.size w W) := by rw [hW]; exact (below_new w _).alloc (by simp) _
  have HX : Hid (KBox W w.heap.size (.slice a1 ps.length c1) (.slice a2 L.length c2)) := by rw [hW]; exact (KBox.new w _ _).here (below_new _ _)
  have HY : Hid (Box W (w.heap.size + 1) (.slice a3 r.lo.length c3) (.slice a4 r.hi.length c4) (.bool r.all)) := by
    rw [hW]
    have := Box.new (w.alloc (.cells #[.slice a1 ps.length c1, .slice a2 L.length c2] 26)) (.slice a3 r.lo.length c3) (.slice a4 r.hi.length c4) (.bool r.all)
    show Box _ _ _ _ _
    simpa using this
  have HK : Hid (KidsAt w.heap.size w (.agg #[.slice a1 ps.length c1, .slice a2 L.length c2]) ps L) := hks
  have HU : Hid (RangeAt w (.agg #[.slice a3 r.lo.length c3, .slice a4 r.hi.length c4, .bool r.all]) r) := hus
  have HSR : Hid (r.Short 140737488351232) := hr
  clear h hu h1 h2 hu1 hu2 hks hus hr
  go_enter Try.func6, Try.ntmps6
  go_wp2_with fail
  rw [← hW]
  clear hW
  refine (alive_any W).mono ?_
  rintro e wA ⟨rfl, hbA⟩
  have HBA : Hid (Below w.heap.size w wA) := HBW.out.trans (hbA.mono HBW.out.size)
  have HXA : Hid (KBox wA w.heap.size (.slice a1 ps.length c1) (.slice a2 L.length c2)) := HX.out.here hbA
  have HYA : Hid (Box wA (w.heap.size + 1) (.slice a3 r.lo.length c3) (.slice a4 r.hi.length c4) (.bool r.all)) := HY.out.here hbA
  clear hbA HX HY HBW
  obtain ⟨k0, k1⟩ := HXA.out.cells
  go_wp2_with fail
  refine (weight_any (HK.out.here HBA.out)).mono ?_
  rintro e wB ⟨⟨z, rfl, hz⟩, hbB⟩
  have HZ : Hid (z ≤ 2147483647 → z = ps.length + weightL L) := hz
  have HBB : Hid (Below w.heap.size w wB) := HBA.out.trans (hbB.mono HBA.out.size)
  have HXB : Hid (KBox wB w.heap.size (.slice a1 ps.length c1) (.slice a2 L.length c2)) := HXA.out.here hbB
  have HYB : Hid (Box wB (w.heap.size + 1) (.slice a3 r.lo.length c3) (.slice a4 r.hi.length c4) (.bool r.all)) := HYA.out.here hbB
  have HYW : Hid (w.heap.size + 1 < wB.heap.size) := HYB.out.lt
  clear hz hbB HXA HYA HBA k0 k1
  by_cases hle : z ≤ 2147483647
  · have hzz : ¬ (2147483647 : Int) < (z : Int) := by omega
    have hwt : ps.length + weightL L ≤ 2147483647 := by rw [← HZ.out hle]; exact hle
    have HWT : Hid (ps.length + weightL L ≤ 2147483647) := hwt
    clear HZ hwt
    obtain ⟨k0, k1⟩ := HXB.out.cells
    go_wp2_with fail
    refine (lend_any (HK.out.here HBB.out) HWT.out).mono ?_
    rintro e w3 ⟨b, vq, F, rfl, hlo, hfk, hb3⟩
    have HLO : Hid (LoanAt wB.heap.size w3 b vq ps F) := hlo
    have HFK : Hid (F.map Lk.k = keysOf L) := hfk
    have hs3 : wB.heap.size ≤ w3.heap.size := hb3.size
    have HB3 : Hid (Below w.heap.size w w3) := HBB.out.trans (hb3.mono HBB.out.size)
    have HX3 : Hid (KBox w3 w.heap.size (.slice a1 ps.length c1) (.slice a2 L.length c2)) := HXB.out.here hb3
    have HY3 : Hid (Box w3 (w.heap.size + 1) (.slice a3 r.lo.length c3) (.slice a4 r.hi.length c4) (.bool r.all)) := HYB.out.here hb3
    have hsb : w.heap.size ≤ wB.heap.size := HBB.out.size
    clear hlo hfk hb3 HXB HYB HBB k0 k1
    -- the range's own keys, with a mark behind each
    have hl1 : r.lo.length ≤ 140737488351232 := HSR.out.lo
    have hl2 : r.hi.length ≤ 140737488351232 := HSR.out.hi
    have HL3 : Hid (∀ W, Below w3.heap.size w3 W → KeyAt W (.slice a3 r.lo.length c3) r.lo ∧ KeyAt W (.slice a4 r.hi.length c4) r.hi) := fun W hW => by
      obtain ⟨u1, u2, e, h1, h2⟩ := (HU.out.here (HB3.out.trans (hW.mono HB3.out.size))).is
      cases e
      exact ⟨h1, h2⟩
    have HY0 : Hid (∀ W, Below w3.heap.size w3 W → W.cell? ⟨w.heap.size + 1, 0, none⟩ = some (.slice a3 r.lo.length c3) ∧ W.cell? ⟨w.heap.size + 1, 1, none⟩ = some (.slice a4 r.hi.length c4) ∧ W.cell? ⟨w.heap.size + 1, 2, none⟩ = some (.bool r.all)) := fun W hW => (HY3.out.here hW).cells
    have xa : (w3.alloc (.cells #[] 5)).cell? ⟨w.heap.size + 1, 0, none⟩ = some (.slice a3 r.lo.length c3) := (HY0.out _ (below_new _ _)).1
    go_upto_region 6 with (first
      | (at_builtin; refine wpList_append_key rfl _ _ rfl w3.heap.size (.slice (some ⟨w3.heap.size, 0, none⟩) 0 0) _ [] r.lo rfl (newE w3) rfl (HL3.out _ (below_new _ _)).1 (by simp; omega) (by simp) ?_
         intro v1 w4 hv1 hk4
         have HV1 : Hid (NewKey w3.heap.size w4 v1 r.lo) := hv1
         have HB4 : Hid (Below w3.heap.size w3 w4) := (below_new w3 _).trans (hk4.low.mono (by simp))
         clear hv1 hk4)
      | (at_builtin; refine wpList_append_key rfl _ _ rfl w3.heap.size v1 _ r.lo [167] rfl (HV1.out.here (below_new _ _)) rfl (lit1 rfl) (by simp; omega) (Nat.le_trans HB4.out.size (by simp)) ?_
         intro v2 w5 hv2 hk5
         have HV2 : Hid (NewKey w3.heap.size w5 v2 (r.lo ++ [167])) := hv2
         have HB5 : Hid (Below w3.heap.size w3 w5) := (HB4.out.trans ((below_new w4 _).mono HB4.out.size)).trans hk5.low
         clear hv2 hk5))
    clear xa
    have hs5 : w3.heap.size ≤ w5.heap.size := HB5.out.size
    have xb : (w5.alloc (.cells #[] 5)).cell? ⟨w.heap.size + 1, 1, none⟩ = some (.slice a4 r.hi.length c4) := (HY0.out _ (HB5.out.trans ((below_new _ _).mono hs5))).2.1
    go_upto_region 7 with (first
      | (at_builtin; refine wpList_append_key rfl _ _ rfl w5.heap.size (.slice (some ⟨w5.heap.size, 0, none⟩) 0 0) _ [] r.hi rfl (newE w5) rfl (HL3.out _ (HB5.out.trans ((below_new _ _).mono hs5))).2 (by simp; omega) (by simp) ?_
         intro v3 w6 hv3 hk6
         have HV3 : Hid (NewKey w5.heap.size w6 v3 r.hi) := hv3
         have HB6 : Hid (Below w5.heap.size w5 w6) := (below_new w5 _).trans (hk6.low.mono (by simp))
         clear hv3 hk6)
      | (at_builtin; refine wpList_append_key rfl _ _ rfl w5.heap.size v3 _ r.hi [167] rfl (HV3.out.here (below_new _ _)) rfl (lit1 rfl) (by simp; omega) (Nat.le_trans HB6.out.size (by simp)) ?_
         intro v4 w7 hv4 hk7
         have HV4 : Hid (NewKey w5.heap.size w7 v4 (r.hi ++ [167])) := hv4
         have HB57 : Hid (Below w5.heap.size w5 w7) := (HB6.out.trans ((below_new w6 _).mono HB6.out.size)).trans hk7.low
         clear hv4 hk7))
    clear xb
    have hs7 : w5.heap.size ≤ w7.heap.size := HB57.out.size
    have HB37 : Hid (Below w3.heap.size w3 w7) := HB5.out.trans (HB57.out.mono hs5)
    obtain ⟨gl, cl, e1, hcl, hgl, hgl2⟩ := HV2.out.full (by simp)
    rw [snoc_len] at e1 hcl
    subst e1
    obtain ⟨gh, ch, e1, hch, hgh, hgh2⟩ := HV4.out.full (by simp)
    rw [snoc_len] at e1 hch
    subst e1
    have HVL : Hid (NewKey w3.heap.size w7 (.slice (some ⟨gl, 0, none⟩) (r.lo.length + 1) cl) (r.lo ++ [167])) := HV2.out.here HB57.out
    have HVH : Hid (NewKey w5.heap.size w7 (.slice (some ⟨gh, 0, none⟩) (r.hi.length + 1) ch) (r.hi ++ [167])) := HV4.out
    clear HV1 HV2 HV3 HV4 HB4 HB5 HB6 HB57
    have hc1 : r.lo.length ≤ cl := by omega
    have hc2 : r.hi.length ≤ ch := by omega
    obtain ⟨y0, y1, y2⟩ := HY0.out w7 HB37.out
    go_cut [11] (fun s11 wx => OwnVar w7 wx s11 (.slice (some ⟨gl, 0, none⟩) r.lo.length cl) (.slice (some ⟨gh, 0, none⟩) r.hi.length ch) (.bool r.all))
    case first =>
      go_region_held_law (fun W' => W'.cell? ⟨w.heap.size + 1, 0, none⟩ = some (.slice a3 r.lo.length c3) ∧ W'.cell? ⟨w.heap.size + 1, 1, none⟩ = some (.slice a4 r.hi.length c4) ∧ W'.cell? ⟨w.heap.size + 1, 2, none⟩ = some (.bool r.all)) (first | (refine ⟨?_, ?_, ?_⟩ <;> with_reducible assumption) | (go_keep; done)) (fail)
      all_goals
        go_wp2_with fail
        go_meet
        first | exact own_var2.drew | exact (own_var rfl).drew | exact own_var2 | exact own_var rfl
    case rest =>
      obtain ⟨ao, rfl, hao, hob, hbc⟩ := hcut.is
      obtain ⟨W8, rfl⟩ : ∃ W8, W8 = wc := ⟨_, rfl⟩
      have HB38 : Hid (Below w3.heap.size w3 W8) := HB37.out.trans (hbc.mono (by have := HB37.out.size; exact this))
      have HOB : Hid (Box W8 ao (.slice (some ⟨gl, 0, none⟩) r.lo.length cl) (.slice (some ⟨gh, 0, none⟩) r.hi.length ch) (.bool r.all)) := hob
      have HVL8 : Hid (NewKey w3.heap.size W8 (.slice (some ⟨gl, 0, none⟩) (r.lo.length + 1) cl) (r.lo ++ [167])) := HVL.out.here hbc
      have HVH8 : Hid (NewKey w3.heap.size W8 (.slice (some ⟨gh, 0, none⟩) (r.hi.length + 1) ch) (r.hi ++ [167])) := (HVH.out.here hbc).mono hs5
      have hs8 : w3.heap.size ≤ W8.heap.size := HB38.out.size
      have hao3 : w3.heap.size ≤ ao := by omega
      clear hob hbc HVL HVH hcut HB37 y0 y1 y2 hs7 hgl2 hgh2 hc1 hc2
      clear hgh hao
      -- Span, twice
      have HQS : Hid ((spanR (kd ps L) r i).Short 140737488351232) := spanR_short HSR.out (fun k hk => by
        obtain ⟨e, he, rfl⟩ := List.mem_map.1 hk
        have h1 := weightL_mem he
        have h2 := HWT.out
        omega)
      obtain ⟨q, hq⟩ : ∃ q, q = spanR (kd ps L) r i := ⟨_, rfl⟩
      obtain ⟨n, hn⟩ : ∃ n, n = spanE (kd ps L) i := ⟨_, rfl⟩
      obtain ⟨gp, gq, cq, e0⟩ : ∃ gp gq cq, vq = .agg #[.slice (some ⟨gp, 0, none⟩) ps.length (ps.length + 3), .slice (some ⟨gq, 0, none⟩) L.length cq] := by
        obtain ⟨gp, gl2, cl2, _, _, _, e, _⟩ := HLO.out.is
        have hfl : F.length = L.length := by have := congrArg List.length HFK.out; simpa [keysOf] using this
        rw [hfl] at e
        exact ⟨gp, gl2, cl2, e⟩
      subst e0
      have HSP : Hid (∀ W, Below W8.heap.size W8 W → Calls Try.prog 20 #[.agg #[.slice (some ⟨gp, 0, none⟩) ps.length (ps.length + 3), .slice (some ⟨gq, 0, none⟩) L.length cq], .agg #[.slice (some ⟨gl, 0, none⟩) r.lo.length cl, .slice (some ⟨gh, 0, none⟩) r.hi.length ch, .bool r.all], .int .i64 i] W fun e w' => ∃ v', e = .returned (.tuple #[v', .int .i64 (n : Nat)]) ∧ NewRange W.heap.size w' v' q ∧ Below W.heap.size W w') := fun W hW => by
        have hfl : F.length = L.length := by have := congrArg List.length HFK.out; simpa [keysOf] using this
        obtain ⟨_, _, e, h1, h2⟩ := HK.out.is
        cases e
        have h3 := LoanAt.kids (HLO.out.here (HB38.out.trans (hW.mono hs8))) h1.short h1.fits (by rw [hfl]; exact h2.short)
        have h4 : RangeAt W (.agg #[.slice (some ⟨gl, 0, none⟩) r.lo.length cl, .slice (some ⟨gh, 0, none⟩) r.hi.length ch, .bool r.all]) r := ⟨_, _, rfl, (HVL8.out.here hW).front rfl, (HVH8.out.here hW).front rfl⟩
        have h5 := span_any h3 h4 hi
        rw [kc_keys HFK.out, ← hq, ← hn] at h5
        exact h5
      have HCL : Hid (∀ W, Below W8.heap.size W8 W → W.cell? ⟨b, 0, none⟩ = some (.slice (some ⟨gp, 0, none⟩) ps.length (ps.length + 3)) ∧ W.cell? ⟨b, 1, none⟩ = some (.slice (some ⟨gq, 0, none⟩) L.length cq) ∧ W.cell? ⟨ao, 0, none⟩ = some (.slice (some ⟨gl, 0, none⟩) r.lo.length cl) ∧ W.cell? ⟨ao, 1, none⟩ = some (.slice (some ⟨gh, 0, none⟩) r.hi.length ch) ∧ W.cell? ⟨ao, 2, none⟩ = some (.bool r.all)) := fun W hW => by
        obtain ⟨gp', gl2, cl2, _, _, _, e, hbx, _⟩ := (HLO.out.here (HB38.out.trans (hW.mono hs8))).is
        simp only [Value.agg.injEq, Array.mk.injEq, List.cons.injEq, Value.slice.injEq, Option.some.injEq, Addr.mk.injEq, and_true] at e
        obtain ⟨⟨rfl, _⟩, ⟨rfl, h9, rfl⟩⟩ := e
        obtain ⟨h1, h2, _⟩ := hbx.cells
        rw [← h9] at h2
        obtain ⟨h3, h4, h5⟩ := (HOB.out.here hW).cells
        exact ⟨h1, h2, h3, h4, h5⟩
      have hbl : b < W8.heap.size := by
        obtain ⟨_, _, _, _, _, _, _, hbx, _⟩ := HLO.out.is
        have := hbx.lt
        omega
      have haol : ao < W8.heap.size := HOB.out.lt
      have HQ : Hid (q = spanR (kd ps L) r i) := hq
      have HN : Hid (n = spanE (kd ps L) i) := hn
      clear hq hn
      have HBW8 : Hid (Below W8.heap.size W8 W8) := Below.refl _ _
      obtain ⟨x0, x1, x2, x3, x4⟩ := HCL.out W8 HBW8.out
      have hblX : b < W8.heap.size := Nat.lt_of_lt_of_le hbl HBW8.out.size
      have haolX : ao < W8.heap.size := Nat.lt_of_lt_of_le haol HBW8.out.size
      go_upto_region 8 with fail
      go_cut [12, 13] (fun sA sB wx => sB = .int .i64 (n : Nat) ∧ SpanVar W8 wx sA q)
      case first =>
        go_region_held_law (fun W' => W'.cell? ⟨b, 0, none⟩ = some (.slice (some ⟨gp, 0, none⟩) ps.length (ps.length + 3)) ∧ W'.cell? ⟨b, 1, none⟩ = some (.slice (some ⟨gq, 0, none⟩) L.length cq) ∧ W'.cell? ⟨ao, 0, none⟩ = some (.slice (some ⟨gl, 0, none⟩) r.lo.length cl) ∧ W'.cell? ⟨ao, 1, none⟩ = some (.slice (some ⟨gh, 0, none⟩) r.hi.length ch) ∧ W'.cell? ⟨ao, 2, none⟩ = some (.bool r.all)) (first | (refine ⟨?_, ?_, ?_, ?_, ?_⟩ <;> with_reducible assumption) | (refine ⟨?_, ?_, ?_, ?_, ?_⟩ <;> (rw [put_far2 (by omega), put_far2 (by omega), put_far2 (by omega)]; with_reducible assumption)) | (go_keep; done))
          (first | (go_at_call 20; go_loud (
                    refine Calls.mono (HSP.out _ (HBW8.out.trans (Below.mono (by first | exact Below.refl _ _ | exact (Below.refl _ _).drew | exact below_new _ _ | exact (below_new _ _).drew) HBW8.out.size))) ?_
                    rintro e w9 ⟨v', rfl, hn9, hb9⟩
                    obtain ⟨b1, d1, b2, d2, e9⟩ := hn9.slices
                    subst e9
                    have HN9 : Hid _ := hn9
                    have HX9 : Hid (Below W8.heap.size W8 w9) := by first | exact hb9 | exact ((Below.refl _ _).drew).trans hb9 | exact (below_new _ _).trans (hb9.mono (by simp)) | exact ((below_new _ _).drew).trans (hb9.mono (by simp))
                    obtain ⟨z0, z1, z2, z3, z4⟩ := HCL.out w9 (HBW8.out.trans (HX9.out.mono HBW8.out.size))
                    first
                      | (have hx9 : Box w9 W8.heap.size (.slice none 0 0) (.slice none 0 0) (.bool false) := (Box.new W8 (.slice none 0 0) (.slice none 0 0) (.bool false)).here (by first | exact hb9 | exact ((Below.refl _ _).drew).trans hb9)
                         have HA9 : Hid (Below (W8.alloc (.cells #[.slice none 0 0, .slice none 0 0, .bool false] 47)).heap.size (W8.alloc (.cells #[.slice none 0 0, .slice none 0 0, .bool false] 47)) w9) := by first | exact hb9 | exact ((Below.refl _ _).drew).trans hb9
                         obtain ⟨p0, p1, p2⟩ := hx9.cells
                         obtain ⟨f0, f1, f2⟩ := hx9.open
                         clear hx9)
                      | skip
                    clear hn9 hb9)))
        all_goals
          go_wp2_with fail
          go_meet
          first | exact ⟨rfl, span_var_c HX9.out HN9.out⟩ | exact ⟨rfl, span_var_a rfl HA9.out HN9.out⟩ | exact ⟨rfl, (span_var_c HX9.out HN9.out).drew⟩ | exact ⟨rfl, (span_var_a rfl HA9.out HN9.out).drew⟩
      case rest =>
        obtain ⟨rfl, hsv⟩ := hcut
        obtain ⟨aa, va1, da1, va2, da2, rfl, haa, hba, hna, hb89⟩ := hsv.is
        obtain ⟨W9, rfl⟩ : ∃ W9, W9 = wc := ⟨_, rfl⟩
        have HBA9 : Hid (Box W9 aa (.slice va1 q.lo.length da1) (.slice va2 q.hi.length da2) (.bool q.all)) := hba
        have HNA9 : Hid (NewRange W8.heap.size W9 (.agg #[.slice va1 q.lo.length da1, .slice va2 q.hi.length da2, .bool q.all]) q) := hna
        have HBW9 : Hid (Below W8.heap.size W8 W9) := hb89
        clear hsv hba hna hb89 hblX haolX x0 x1 x2 x3 x4
        obtain ⟨x0, x1, x2, x3, x4⟩ := HCL.out W9 HBW9.out
        have hblX : b < W9.heap.size := Nat.lt_of_lt_of_le hbl HBW9.out.size
        have haolX : ao < W9.heap.size := Nat.lt_of_lt_of_le haol HBW9.out.size
        go_upto_region 9 with fail
        go_cut [14, 15] (fun sA sB wx => sB = .int .i64 (n : Nat) ∧ SpanVar W9 wx sA q)
        case first =>
          go_region_held_law (fun W' => W'.cell? ⟨b, 0, none⟩ = some (.slice (some ⟨gp, 0, none⟩) ps.length (ps.length + 3)) ∧ W'.cell? ⟨b, 1, none⟩ = some (.slice (some ⟨gq, 0, none⟩) L.length cq) ∧ W'.cell? ⟨ao, 0, none⟩ = some (.slice (some ⟨gl, 0, none⟩) r.lo.length cl) ∧ W'.cell? ⟨ao, 1, none⟩ = some (.slice (some ⟨gh, 0, none⟩) r.hi.length ch) ∧ W'.cell? ⟨ao, 2, none⟩ = some (.bool r.all)) (first | (refine ⟨?_, ?_, ?_, ?_, ?_⟩ <;> with_reducible assumption) | (refine ⟨?_, ?_, ?_, ?_, ?_⟩ <;> (rw [put_far2 (by omega), put_far2 (by omega), put_far2 (by omega)]; with_reducible assumption)) | (go_keep; done))
            (first | (go_at_call 20; go_loud (
                      refine Calls.mono (HSP.out _ (HBW9.out.trans (Below.mono (by first | exact Below.refl _ _ | exact (Below.refl _ _).drew | exact below_new _ _ | exact (below_new _ _).drew) HBW9.out.size))) ?_
                      rintro e w9 ⟨v', rfl, hn9, hb9⟩
                      obtain ⟨b1, d1, b2, d2, e9⟩ := hn9.slices
                      subst e9
                      have HN9 : Hid _ := hn9
                      have HX9 : Hid (Below W9.heap.size W9 w9) := by first | exact hb9 | exact ((Below.refl _ _).drew).trans hb9 | exact (below_new _ _).trans (hb9.mono (by simp)) | exact ((below_new _ _).drew).trans (hb9.mono (by simp))
                      obtain ⟨z0, z1, z2, z3, z4⟩ := HCL.out w9 (HBW9.out.trans (HX9.out.mono HBW9.out.size))
                      first
                        | (have hx9 : Box w9 W9.heap.size (.slice none 0 0) (.slice none 0 0) (.bool false) := (Box.new W9 (.slice none 0 0) (.slice none 0 0) (.bool false)).here (by first | exact hb9 | exact ((Below.refl _ _).drew).trans hb9)
                           have HA9 : Hid (Below (W9.alloc (.cells #[.slice none 0 0, .slice none 0 0, .bool false] 47)).heap.size (W9.alloc (.cells #[.slice none 0 0, .slice none 0 0, .bool false] 47)) w9) := by first | exact hb9 | exact ((Below.refl _ _).drew).trans hb9
                           obtain ⟨p0, p1, p2⟩ := hx9.cells
                           obtain ⟨f0, f1, f2⟩ := hx9.open
                           clear hx9)
                        | skip
                      clear hn9 hb9)))
          all_goals
            go_wp2_with fail
            go_meet
            first | exact ⟨rfl, span_var_c HX9.out HN9.out⟩ | exact ⟨rfl, span_var_a rfl HA9.out HN9.out⟩ | exact ⟨rfl, (span_var_c HX9.out HN9.out).drew⟩ | exact ⟨rfl, (span_var_a rfl HA9.out HN9.out).drew⟩
        case rest =>
          obtain ⟨rfl, hsv⟩ := hcut
          obtain ⟨ab, vb1, db1, vb2, db2, rfl, hab, hbb, hnb, hb910⟩ := hsv.is
          obtain ⟨W10, rfl⟩ : ∃ W10, W10 = wc := ⟨_, rfl⟩
          have HBB10 : Hid (Box W10 ab (.slice vb1 q.lo.length db1) (.slice vb2 q.hi.length db2) (.bool q.all)) := hbb
          have HNB10 : Hid (NewRange W9.heap.size W10 (.agg #[.slice vb1 q.lo.length db1, .slice vb2 q.hi.length db2, .bool q.all]) q) := hnb
          have HB910 : Hid (Below W9.heap.size W9 W10) := hb910
          have HBW10 : Hid (Below W8.heap.size W8 W10) := HBW9.out.trans (hb910.mono HBW9.out.size)
          clear hsv hbb hnb hb910 hblX haolX x0 x1 x2 x3 x4
          -- the document's Span
          have HB310 : Hid (Below w3.heap.size w3 W10) := HB38.out.trans (HBW10.out.mono hs8)
          obtain ⟨k0, k1⟩ := (HX3.out.here HB310.out).cells
          obtain ⟨y0, y1, y2⟩ := HY0.out W10 HB310.out
          have HRS : Hid (Calls Try.prog 21 #[.agg #[.slice a1 ps.length c1, .slice a2 L.length c2], .agg #[.slice a3 r.lo.length c3, .slice a4 r.hi.length c4, .bool r.all], .int .i64 i] W10 fun e w' => ∃ v', e = .returned (.tuple #[v', .int .i64 (n : Nat)]) ∧ NewRange W10.heap.size w' v' q ∧ Below W10.heap.size W10 w') := by
            have hb := HB3.out.trans (HB310.out.mono HB3.out.size)
            have h := refSpan_any (HK.out.here hb) (HU.out.here hb) hi
            rw [← HQ.out, ← HN.out] at h
            exact h
          go_upto_region 11 with (first
            | (go_at_call 21; go_loud (
               refine Calls.mono HRS.out ?_
               rintro e w10 ⟨v', rfl, hn, hb⟩
               obtain ⟨vw1, dw1, vw2, dw2, e9⟩ := hn.slices
               subst e9
               have HNW : Hid (NewRange W10.heap.size w10 (.agg #[.slice vw1 q.lo.length dw1, .slice vw2 q.hi.length dw2, .bool q.all]) q) := hn
               have HBX : Hid (Below W10.heap.size W10 w10) := hb
               clear hn hb)))
          -- BEHIND
          obtain ⟨X, hX⟩ : ∃ X, X = w10.alloc (.cells #[.slice vw1 q.lo.length dw1, .slice vw2 q.hi.length dw2, .bool q.all] 47) := ⟨_, rfl⟩
          rw [← hX]
          obtain ⟨aw, haw⟩ : ∃ aw, aw = w10.heap.size := ⟨_, rfl⟩
          rw [← haw]
          have hb10X : Below w10.heap.size w10 X := by rw [hX]; exact below_new _ _
          have HB10X : Hid (Below W10.heap.size W10 X) := HBX.out.trans (hb10X.mono HBX.out.size)
          have HBWX : Hid (Box X aw (.slice vw1 q.lo.length dw1) (.slice vw2 q.hi.length dw2) (.bool q.all)) := by rw [hX, haw]; exact Box.new _ _ _ _
          have HNWX : Hid (NewRange W10.heap.size X (.agg #[.slice vw1 q.lo.length dw1, .slice vw2 q.hi.length dw2, .bool q.all]) q) := HNW.out.here hb10X
          have hawz : W10.heap.size ≤ aw := by rw [haw]; exact HBX.out.size
          have HBAX : Hid (Box X aa (.slice va1 q.lo.length da1) (.slice va2 q.hi.length da2) (.bool q.all)) := (HBA9.out.here HB910.out).here HB10X.out
          have HNAX : Hid (NewRange W8.heap.size X (.agg #[.slice va1 q.lo.length da1, .slice va2 q.hi.length da2, .bool q.all]) q) := (HNA9.out.here HB910.out).here HB10X.out
          have HBBX : Hid (Box X ab (.slice vb1 q.lo.length db1) (.slice vb2 q.hi.length db2) (.bool q.all)) := HBB10.out.here HB10X.out
          have HNBX : Hid (NewRange W9.heap.size X (.agg #[.slice vb1 q.lo.length db1, .slice vb2 q.hi.length db2, .bool q.all]) q) := HNB10.out.here HB10X.out
          have hs9 : W8.heap.size ≤ W9.heap.size := HBW9.out.size
          have hs10 : W9.heap.size ≤ W10.heap.size := HB910.out.size
          have HB8X : Hid (Below W8.heap.size W8 X) := HBW10.out.trans (HB10X.out.mono (Nat.le_trans hs9 hs10))
          have hsX : W8.heap.size ≤ X.heap.size := HB8X.out.size
          have HOWN : Hid ((∀ g, (Value.slice va1 q.lo.length da1).ownBlock = some g → g < W9.heap.size) ∧ (∀ g, (Value.slice va2 q.hi.length da2).ownBlock = some g → g < W9.heap.size) ∧ (∀ g, (Value.slice va1 q.lo.length da1).ownBlock = some g → (Value.slice va2 q.hi.length da2).ownBlock ≠ some g)) := by
            obtain ⟨u1, u2, e, h1, h2, h3⟩ := HNA9.out.is
            cases e
            exact ⟨fun g hg => (own_type h1.1 g hg).1, fun g hg => (own_type h2.1 g hg).1, h3⟩
          clear hX haw hb10X HNW HBX HBA9 HNA9 HBB10 HNB10 HB910 HBW10 HBW9 HRS HB310 k0 k1 y0 y1 y2
          -- they are alike
          have HSM : Hid (∀ W, Below X.heap.size X W → Calls Try.prog 22 #[.agg #[.slice va1 q.lo.length da1, .slice va2 q.hi.length da2, .bool q.all], .agg #[.slice vw1 q.lo.length dw1, .slice vw2 q.hi.length dw2, .bool q.all]] W fun e w' => e = .returned (.bool true) ∧ Below W.heap.size W w') := fun W hW => by
            have h := sameRange_any (HNAX.out.at.here hW) (HNWX.out.at.here hW)
            rw [decide_eq_true rfl] at h; exact h
          have HSB : Hid (∀ W, Mid W8.heap.size W9.heap.size X W → Calls Try.prog 22 #[.agg #[.slice vb1 q.lo.length db1, .slice vb2 q.hi.length db2, .bool q.all], .agg #[.slice vw1 q.lo.length dw1, .slice vw2 q.hi.length dw2, .bool q.all]] W fun e w' => e = .returned (.bool true) ∧ Below W.heap.size W w') := fun W hW => by
            have h := sameRange_any (HNBX.out.mid hW (Nat.le_refl _)).at (HNWX.out.mid hW hs10).at
            rw [decide_eq_true rfl] at h; exact h
          have hnn : ((n : Int) != (n : Int)) = false := by simp
          obtain ⟨p0, p1, p2⟩ := HBAX.out.cells
          obtain ⟨z0, z1, z2⟩ := HBWX.out.cells
          go_wp2_with fail
          refine Calls.mono (HSM.out X (Below.refl _ _)) ?_
          rintro e x1 ⟨rfl, hb⟩
          have HM1 : Hid (Mid W8.heap.size W9.heap.size X x1) := Mid.of hb hsX
          clear p0 p1 p2 z0 z1 z2 HSM
          have HBA1 : Hid (Box x1 aa (.slice va1 q.lo.length da1) (.slice va2 q.hi.length da2) (.bool q.all)) := HBAX.out.here hb
          have HNA1 : Hid (NewRange W8.heap.size x1 (.agg #[.slice va1 q.lo.length da1, .slice va2 q.hi.length da2, .bool q.all]) q) := HNAX.out.here hb
          clear hb HBAX HNAX
          obtain ⟨z0, z1, z2⟩ := (HBBX.out.mid HM1.out hab).cells
          obtain ⟨p0, p1, p2⟩ := (HBWX.out.mid HM1.out (Nat.le_trans hs10 hawz)).cells
          go_wp2_with fail
          refine Calls.mono (HSB.out x1 HM1.out) ?_
          rintro e x2 ⟨rfl, hb⟩
          have hx12 : W8.heap.size ≤ x1.heap.size := Nat.le_trans hsX HM1.out.low.size
          have HM2 : Hid (Mid W8.heap.size W9.heap.size X x2) := HM1.out.trans (Mid.of hb hx12)
          have HT2 : Hid (Told W8.heap.size W9.heap.size aa X x2 (.slice va1 q.lo.length da1) (.slice va2 q.hi.length da2) (.bool q.all)) := ⟨HM2.out, HBA1.out.here hb⟩
          have HK12 : Hid (KeyLen W8.heap.size x2 (.slice va1 q.lo.length da1) q.lo.length ∧ KeyLen W8.heap.size x2 (.slice va2 q.hi.length da2) q.hi.length) := by
            obtain ⟨u1, u2, e, h1, h2, h3⟩ := (HNA1.out.here hb).is
            cases e
            exact ⟨⟨_, rfl, h1⟩, ⟨_, rfl, h2⟩⟩
          clear z0 z1 z2 p0 p1 p2 hb HM1 HBA1 HNA1 HM2
          have hq1 : q.lo.length ≤ 140737488351232 := by have := HQS.out.lo; rw [← HQ.out] at this; exact this
          have hq2 : q.hi.length ≤ 140737488351232 := by have := HQS.out.hi; rw [← HQ.out] at this; exact this
          go_wp2_with fail
          -- the owner writes into the first key
          go_loopw [18] (fun s wx => ∃ k : Nat, k ≤ q.lo.length ∧ s = .int .i64 k ∧ Told W8.heap.size W9.heap.size aa X wx (.slice va1 q.lo.length da1) (.slice va2 q.hi.length da2) (.bool q.all) ∧ KeyLen W8.heap.size wx (.slice va1 q.lo.length da1) q.lo.length ∧ KeyLen W8.heap.size wx (.slice va2 q.hi.length da2) q.hi.length) (fun s _ => q.lo.length - (intOf s).toNat)
          case atStart => exact ⟨0, by omega, rfl, HT2.out, HK12.out.1, HK12.out.2⟩
          case round =>
            clear HT2 HK12
            obtain ⟨k, hk, rfl, ht, hk1, hk2⟩ := hrel
            have HT : Hid _ := ht
            have HK1 : Hid _ := hk1
            have HK2 : Hid _ := hk2
            obtain ⟨p0, p1, p2⟩ := ht.box.cells
            clear ht hk1 hk2
            by_cases hlt : k < q.lo.length
            · have hz : (k : Int) < (q.lo.length : Int) := by omega
              obtain ⟨kk, hkl, hnk⟩ := HK1.out.is
              obtain ⟨g, c', e1, h7, h8, h6⟩ := hnk.full (by omega)
              rw [hkl] at e1
              simp only [Value.slice.injEq] at e1
              obtain ⟨rfl, h9, rfl⟩ := e1
              clear h9
              obtain ⟨x, hx⟩ : ∃ x, kk[k]? = some x := ⟨kk[k]'(by omega), List.getElem?_eq_getElem _⟩
              obtain ⟨c0, f0⟩ := hnk.byte hx
              have HG : Hid (g < W9.heap.size) := HOWN.out.1 g rfl
              have HST : Hid _ := HT.out.set (u := 1) HK1.out HG.out hlt
              have HK2' : Hid (KeyLen W8.heap.size (wr.setCell ⟨g, k, none⟩ (.int .u8 1)) (.slice va2 q.hi.length da2) q.hi.length) := HK2.out.other fun g' hg' _ => heap_set_other _ (fun e => HOWN.out.2.2 g rfl (by rw [← e]; exact hg'))
              clear hnk hkl hx h6 h7 h8 kk
              go_wp2
              exact ⟨⟨k + 1, by omega, by go_num, HST.out.1, HST.out.2, HK2'.out⟩, by simp [intOf]; omega⟩
            · have hz : ¬ (k : Int) < (q.lo.length : Int) := by omega
              have HT3 : Hid (Told W8.heap.size W9.heap.size aa X wr (.slice va1 q.lo.length da1) (.slice va2 q.hi.length da2) (.bool q.all) ∧ KeyLen W8.heap.size wr (.slice va1 q.lo.length da1) q.lo.length ∧ KeyLen W8.heap.size wr (.slice va2 q.hi.length da2) q.hi.length) := ⟨HT.out, HK1.out, HK2.out⟩
              clear HT HK1 HK2
              go_wp2_with fail
              clear p0 p1 p2
              go_loopw [19] (fun s wx => ∃ k : Nat, k ≤ q.hi.length ∧ s = .int .i64 k ∧ Told W8.heap.size W9.heap.size aa X wx (.slice va1 q.lo.length da1) (.slice va2 q.hi.length da2) (.bool q.all) ∧ KeyLen W8.heap.size wx (.slice va1 q.lo.length da1) q.lo.length ∧ KeyLen W8.heap.size wx (.slice va2 q.hi.length da2) q.hi.length) (fun s _ => q.hi.length - (intOf s).toNat)
              case atStart => exact ⟨0, by omega, rfl, HT3.out⟩
              case round =>
                clear HT3
                obtain ⟨m, hm, rfl, ht, hk1, hk2⟩ := hrel
                have HT : Hid _ := ht
                have HK1 : Hid _ := hk1
                have HK2 : Hid _ := hk2
                obtain ⟨p0, p1, p2⟩ := ht.box.cells
                clear ht hk1 hk2
                by_cases hlt2 : m < q.hi.length
                · have hz2 : (m : Int) < (q.hi.length : Int) := by omega
                  obtain ⟨kk, hkl, hnk⟩ := HK2.out.is
                  obtain ⟨g, c', e1, h7, h8, h6⟩ := hnk.full (by omega)
                  rw [hkl] at e1
                  simp only [Value.slice.injEq] at e1
                  obtain ⟨rfl, h9, rfl⟩ := e1
                  clear h9
                  obtain ⟨x, hx⟩ : ∃ x, kk[m]? = some x := ⟨kk[m]'(by omega), List.getElem?_eq_getElem _⟩
                  obtain ⟨c0, f0⟩ := hnk.byte hx
                  have HG : Hid (g < W9.heap.size) := HOWN.out.2.1 g rfl
                  have HST : Hid _ := HT.out.set (u := 2) HK2.out HG.out hlt2
                  have HK1' : Hid (KeyLen W8.heap.size (wr.setCell ⟨g, m, none⟩ (.int .u8 2)) (.slice va1 q.lo.length da1) q.lo.length) := HK1.out.other fun g' hg' _ => heap_set_other _ (fun e => HOWN.out.2.2 g' hg' (by rw [e]; rfl))
                  clear hnk hkl hx h6 h7 h8 kk
                  go_wp2
                  exact ⟨⟨m + 1, by omega, by go_num, HST.out.1, HK1'.out, HST.out.2⟩, by simp [intOf]; omega⟩
                · have hz2 : ¬ (m : Int) < (q.hi.length : Int) := by omega
                  obtain ⟨x3, rfl⟩ : ∃ x3, x3 = wr := ⟨_, rfl⟩
                  have hx3 : W8.heap.size ≤ x3.heap.size := Nat.le_trans hsX HT.out.mid.low.size
                  -- the keys, made longer
                  obtain ⟨y4, hy4⟩ : ∃ y4, y4 = x3.alloc (.cells #[.int .u8 3, .int .u8 3, .int .u8 3] 5) := ⟨_, rfl⟩
                  have HY4 : Hid (x3.alloc (.cells #[.int .u8 3, .int .u8 3, .int .u8 3] 5) = y4) := hy4.symm
                  have HB4 : Hid (Below x3.heap.size x3 y4) := by rw [hy4]; exact below_new _ _
                  have HS4 : Hid (∀ (j : Nat) (u : Value), [Value.int .u8 3, Value.int .u8 3, Value.int .u8 3][j]? = some u → y4.cell? ((⟨x3.heap.size, 0, none⟩ : Addr).add j) = some u) := by rw [hy4]; exact three_src x3 _
                  obtain ⟨k1, hk1l, hk1⟩ := HK1.out.is
                  have HO4 : Hid (y4.ownsRow W8.heap.size 5 1 (.slice va1 q.lo.length da1) q.lo.length (k1.map encB)) := by have h := (hk1.here HB4.out).1; rw [hk1l] at h; exact h
                  clear hy4 hk1 hk1l
                  go_upto_region 22 with (at_builtin; go_loud (
                    rw [HY4.out]
                    refine wpList_append_lies _ rfl _ _ 27 rfl W8.heap.size 5 i5 (.int .u8 0) 1 1 Try.underlying27 hi5 hz50 hz51 hz52 rfl (by decide) (.slice va1 q.lo.length da1) q.lo.length (k1.map encB) rfl HO4.out ⟨x3.heap.size, 0, none⟩ 3 3 [.int .u8 3, .int .u8 3, .int .u8 3] rfl rfl HS4.out (by intro u hu; simp at hu; subst hu; rfl) (by decide) (by unfold maxLen; omega) (by omega) (Nat.le_trans hx3 HB4.out.size) _ rfl ?_
                    intro g5 c5 x5 _ hg5 _ _
                    have HG5 : Hid (y4.grownBy x5 (Value.slice va1 q.lo.length da1).ownBlock) := hg5
                    clear hg5))
                  have HT5 : Hid (Told W8.heap.size W9.heap.size aa X x5 (.slice va1 q.lo.length da1) (.slice va2 q.hi.length da2) (.bool q.all)) := HT.out.grow HB4.out HK1.out HOWN.out.1 hx3 HG5.out
                  have HK5 : Hid (KeyLen W8.heap.size x5 (.slice va2 q.hi.length da2) q.hi.length) := HK2.out.grow HB4.out HOWN.out.2.2 HG5.out HK1.out
                  clear HT HK1 HK2 HG5 HO4 HS4 HB4 HY4 p0 p1 p2
                  have hx5 : W8.heap.size ≤ x5.heap.size := Nat.le_trans hsX HT5.out.mid.low.size
                  obtain ⟨p0, p1, p2⟩ := HT5.out.box.cells
                  obtain ⟨y4, hy4⟩ : ∃ y4, y4 = x5.alloc (.cells #[.int .u8 4, .int .u8 4, .int .u8 4] 5) := ⟨_, rfl⟩
                  have HY4 : Hid (x5.alloc (.cells #[.int .u8 4, .int .u8 4, .int .u8 4] 5) = y4) := hy4.symm
                  have HB4 : Hid (Below x5.heap.size x5 y4) := by rw [hy4]; exact below_new _ _
                  have HS4 : Hid (∀ (j : Nat) (u : Value), [Value.int .u8 4, Value.int .u8 4, Value.int .u8 4][j]? = some u → y4.cell? ((⟨x5.heap.size, 0, none⟩ : Addr).add j) = some u) := by rw [hy4]; exact three_src x5 _
                  obtain ⟨k2, hk2l, hk2⟩ := HK5.out.is
                  have HO4 : Hid (y4.ownsRow W8.heap.size 5 1 (.slice va2 q.hi.length da2) q.hi.length (k2.map encB)) := by have h := (hk2.here HB4.out).1; rw [hk2l] at h; exact h
                  clear hy4 hk2 hk2l
                  go_upto_region 23 with (at_builtin; go_loud (
                    rw [HY4.out]
                    refine wpList_append_lies _ rfl _ _ 27 rfl W8.heap.size 5 i5 (.int .u8 0) 1 1 Try.underlying27 hi5 hz50 hz51 hz52 rfl (by decide) (.slice va2 q.hi.length da2) q.hi.length (k2.map encB) rfl HO4.out ⟨x5.heap.size, 0, none⟩ 3 3 [.int .u8 4, .int .u8 4, .int .u8 4] rfl rfl HS4.out (by intro u hu; simp at hu; subst hu; rfl) (by decide) (by unfold maxLen; omega) (by omega) (Nat.le_trans hx5 HB4.out.size) _ rfl ?_
                    intro g7 c7 x7 _ hg7 _ _
                    have HG7 : Hid (y4.grownBy x7 (Value.slice va2 q.hi.length da2).ownBlock) := hg7
                    clear hg7))
                  have HT7 : Hid (Told W8.heap.size W9.heap.size aa X x7 (.slice va1 q.lo.length da1) (.slice va2 q.hi.length da2) (.bool q.all)) := HT5.out.grow HB4.out HK5.out HOWN.out.2.1 hx5 HG7.out
                  clear HT5 HK5 HG7 HO4 HS4 HB4 HY4 p0 p1 p2
                  have hx7 : W8.heap.size ≤ x7.heap.size := Nat.le_trans hsX HT7.out.mid.low.size
                  -- what the others told stays
                  obtain ⟨z0, z1, z2⟩ := (HBBX.out.mid HT7.out.mid hab).cells
                  obtain ⟨p0, p1, p2⟩ := (HBWX.out.mid HT7.out.mid (Nat.le_trans hs10 hawz)).cells
                  go_wp2_with fail
                  refine Calls.mono (HSB.out x7 HT7.out.mid) ?_
                  rintro e x8 ⟨rfl, hb⟩
                  have HM8 : Hid (Mid W8.heap.size W9.heap.size X x8) := HT7.out.mid.trans (Mid.of hb hx7)
                  have HA8 : Hid (Box x8 aa (.slice va1 q.lo.length da1) (.slice va2 q.hi.length da2) (.bool q.all)) := HT7.out.box.here hb
                  clear hb z0 z1 z2 p0 p1 p2 HT7 HSB
                  obtain ⟨p0, p1, p2⟩ := HA8.out.cells
                  have HB38X : Hid (Below w3.heap.size w3 x8) := HB38.out.trans ((HB8X.out.trans HM8.out.low).mono hs8)
                  obtain ⟨k0, k1⟩ := (HX3.out.here HB38X.out).cells
                  have HST : Hid _ := stays_any HLO.out HB38X.out hs3 HFK.out ((HK.out.below (HB3.out.trans (HB38X.out.mono HB3.out.size))).mono hsb) (by have := HWT.out; omega) (by have := HWT.out; have := weightL_length L; omega)
                  go_wp2_with fail
                  refine Calls.mono HST.out ?_
                  rintro e x9 ⟨rfl, hm, _⟩
                  have HM9 : Hid (Mid wB.heap.size w3.heap.size x8 x9) := hm
                  have HB9 : Hid (Below w.heap.size w x9) := (HB3.out.trans (HB38X.out.mono HB3.out.size)).trans (hm.low.mono hsb)
                  have hs8X : w3.heap.size ≤ x8.heap.size := HB38X.out.size
                  have HO9 : Hid (Box x9 ao (.slice (some ⟨gl, 0, none⟩) r.lo.length cl) (.slice (some ⟨gh, 0, none⟩) r.hi.length ch) (.bool r.all)) := (HOB.out.here (HB8X.out.trans (HM8.out.low.mono (Nat.le_refl _)))).mid hm hao3
                  have HVL9 : Hid (NewKey w3.heap.size x9 (.slice (some ⟨gl, 0, none⟩) (r.lo.length + 1) cl) (r.lo ++ [167])) := (HVL8.out.here (HB8X.out.trans HM8.out.low)).mid hm (Nat.le_refl _)
                  have HVH9 : Hid (NewKey w3.heap.size x9 (.slice (some ⟨gh, 0, none⟩) (r.hi.length + 1) ch) (r.hi ++ [167])) := (HVH8.out.here (HB8X.out.trans HM8.out.low)).mid hm (Nat.le_refl _)
                  have HUB : Hid (Box x9 (w.heap.size + 1) (.slice a3 r.lo.length c3) (.slice a4 r.hi.length c4) (.bool r.all)) := (HY3.out.here HB38X.out).below hm.low (by have := HYW.out; omega)
                  have HUU : Hid (KeyAt x9 (.slice a3 r.lo.length c3) r.lo ∧ KeyAt x9 (.slice a4 r.hi.length c4) r.hi) := by
                    obtain ⟨u1, u2, e, h1, h2⟩ := (HU.out.here HB9.out).is
                    cases e
                    exact ⟨h1, h2⟩
                  clear hm HST k0 k1 p0 p1 p2
                  obtain ⟨k0, k1, _⟩ := HO9.out.cells
                  obtain ⟨p0, p1, _⟩ := HUB.out.cells
                  have e1 := conv_key (HVL9.out.front rfl)
                  have e2 := conv_key (HVH9.out.front rfl)
                  have e3 := conv_key HUU.out.1
                  have e4 := conv_key HUU.out.2
                  obtain ⟨m1, _⟩ := HVL9.out.byte (i := r.lo.length) (x := 167) (by rw [List.getElem?_append_right (Nat.le_refl _), Nat.sub_self]; rfl)
                  obtain ⟨m2, _⟩ := HVH9.out.byte (i := r.hi.length) (x := 167) (by rw [List.getElem?_append_right (Nat.le_refl _), Nat.sub_self]; rfl)
                  have m1' : x9.cell? ⟨gl, r.lo.length, none⟩ = some (.int .u8 167) := m1
                  have m2' : x9.cell? ⟨gh, r.hi.length, none⟩ = some (.int .u8 167) := m2
                  have s1 := strB_eq r.lo r.lo
                  have s2 := strB_eq r.hi r.hi
                  rw [decide_eq_true rfl] at s1 s2
                  generalize strB r.lo = S1 at e1 e3 s1
                  generalize strB r.hi = S2 at e2 e4 s2
                  clear m1 m2
                  go_wp2
                  go_ret
                  exact ⟨by simp, HB9.out⟩
  · have hzz : (2147483647 : Int) < (z : Int) := by omega
    go_wp2
    go_ret
    exact ⟨rfl, HBB.out⟩
end Go.Proofs.Ytaehchijeinloaa
