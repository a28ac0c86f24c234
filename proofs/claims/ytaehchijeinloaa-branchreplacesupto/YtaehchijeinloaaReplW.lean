/- BranchReplaces: the walk. -/
import Derived.Test.YtaehchijeinloaaAlive
import Derived.Test.YtaehchijeinloaaWeight
import Derived.Test.YtaehchijeinloaaRefSmall
import Derived.Test.YtaehchijeinloaaReplV
import Derived.Test.YtaehchijeinloaaOutE
namespace Go.Proofs.Ytaehchijeinloaa
open Go.RowKit

theorem lens_length {L M : List Kc} (h : M.map (fun e => e.k.length) = L.map (fun e => e.k.length)) : M.length = L.length := by
  have := congrArg List.length h
  simpa using this
theorem lens_le {L M : List Kc} {n : Nat} (h : M.map (fun e => e.k.length) = L.map (fun e => e.k.length)) (hl : ∀ k ∈ keysOf L, k.length ≤ n) : ∀ k ∈ keysOf M, k.length ≤ n := fun k hk => by
  obtain ⟨e, he, rfl⟩ := List.mem_map.1 hk
  have : e.k.length ∈ M.map (fun e => e.k.length) := List.mem_map.2 ⟨e, he, rfl⟩
  rw [h] at this
  obtain ⟨e2, he2, h2⟩ := List.mem_map.1 this
  rw [← h2]
  exact hl _ (List.mem_map.2 ⟨e2, he2, rfl⟩)
/-- What a law's call may come out as. -/
structure Small1 (d : Kd) : Prop where
  n : d.ps.length ≤ 8589934592
  f : ∀ p ∈ d.ps, -9223372036854775808 ≤ p ∧ p ≤ 9223372036854775807
  m : d.ks.length ≤ 8589934592
  k : ∀ k ∈ d.ks, k.length ≤ 8589934592
theorem repl_small {ps qs : List Int} {L M : List Kc} (i j : Int) (h1 : ps.length ≤ 2147483647) (h2 : qs.length ≤ 2147483647) (f1 : ∀ p ∈ ps, -9223372036854775808 ≤ p ∧ p ≤ 9223372036854775807) (f2 : ∀ p ∈ qs, -9223372036854775808 ≤ p ∧ p ≤ 9223372036854775807) (h3 : L.length ≤ 2147483647) (h4 : M.length ≤ 2147483647) (h5 : ∀ k ∈ keysOf L, k.length ≤ 2147483647) (h6 : ∀ k ∈ keysOf M, k.length ≤ 2147483647) : Small1 (replD (kd ps L) i j (kd qs M)) := by
  obtain ⟨a, b, c, d⟩ := replD_facts ps qs L M i j
  exact ⟨by omega, fun p hp => (b p hp).elim (f1 p) (f2 p), by omega, fun k hk => by
    rcases d k hk with h | h
    · have := h5 k h; omega
    · have := h6 k h; omega⟩

set_option maxHeartbeats 6400000 in
set_option maxRecDepth 100000 in
theorem replaces_walk {w : World} {v u : Value} {ps qs : List Int} {L M : List Kc} {i j : Int} (h : KidsAt w.heap.size w v ps L) (hu : KidsAt w.heap.size w u qs M) :
    Calls Try.prog 7 #[v, .int .i64 i, .int .i64 j, u] w fun e w' => e = .returned (.bool true) ∧ Below w.heap.size w w' := by
  obtain ⟨vp, vk, rfl, h1, h2⟩ := id h.is
  obtain ⟨a1, c1, rfl⟩ := h1.form
  obtain ⟨a2, c2, rfl⟩ := h2.form
  obtain ⟨up, uk, rfl, h3, h4⟩ := id hu.is
  obtain ⟨a3, c3, rfl⟩ := h3.form
  obtain ⟨a4, c4, rfl⟩ := h4.form
  obtain ⟨W, hW⟩ : ∃ W, W = (w.alloc (.cells #[.slice a1 ps.length c1, .slice a2 L.length c2] 26)).alloc (.cells #[.slice a3 qs.length c3, .slice a4 M.length c4] 26) := ⟨_, rfl⟩
  have HBW : Hid (Below w.heap.size w W) := by rw [hW]; exact (below_new w _).alloc (by simp) _
  have HX : Hid (KBox W w.heap.size (.slice a1 ps.length c1) (.slice a2 L.length c2)) := by
    rw [hW]; exact (KBox.new w _ _).here (below_new _ _)
  have HY : Hid (KBox W (w.heap.size + 1) (.slice a3 qs.length c3) (.slice a4 M.length c4)) := by
    rw [hW]
    have := KBox.new (w.alloc (.cells #[.slice a1 ps.length c1, .slice a2 L.length c2] 26)) (.slice a3 qs.length c3) (.slice a4 M.length c4)
    show KBox _ _ _ _
    simpa using this
  have HK0 : Hid (KidsAt W.heap.size W (.agg #[.slice a1 ps.length c1, .slice a2 L.length c2]) ps L) := h.here HBW.out
  have HK1 : Hid (KidsAt W.heap.size W (.agg #[.slice a3 qs.length c3, .slice a4 M.length c4]) qs M) := hu.here HBW.out
  have HA : Hid (∀ W', Below W.heap.size W W' → KidsAt W'.heap.size W' (.agg #[.slice a1 ps.length c1, .slice a2 L.length c2]) ps L) := fun W' hb => HK0.out.here hb
  have HB : Hid (∀ W', Below W.heap.size W W' → KidsAt W'.heap.size W' (.agg #[.slice a3 qs.length c3, .slice a4 M.length c4]) qs M) := fun W' hb => HK1.out.here hb
  have HCL : Hid (∀ W', Below W.heap.size W W' → W'.cell? ⟨w.heap.size, 0, none⟩ = some (.slice a1 ps.length c1) ∧ W'.cell? ⟨w.heap.size, 1, none⟩ = some (.slice a2 L.length c2) ∧ W'.cell? ⟨w.heap.size + 1, 0, none⟩ = some (.slice a3 qs.length c3) ∧ W'.cell? ⟨w.heap.size + 1, 1, none⟩ = some (.slice a4 M.length c4)) := fun W' hb =>
    ⟨(HX.out.here hb).cells.1, (HX.out.here hb).cells.2, (HY.out.here hb).cells.1, (HY.out.here hb).cells.2⟩
  clear h hu h1 h2 h3 h4 HX HY
  go_enter Try.func7, Try.ntmps7
  go_wp2_with fail
  rw [← hW]
  clear hW
  refine (alive_any W).mono ?_
  rintro e wA ⟨rfl, hb⟩
  have HWA : Hid (Below W.heap.size W wA) := hb
  clear hb
  obtain ⟨k0, k1, k2, k3⟩ := HCL.out wA HWA.out
  go_wp2_with fail
  refine (weight_any (HA.out wA HWA.out)).mono ?_
  rintro e wB ⟨⟨z1, rfl, hz⟩, hb⟩
  have HZ1 : Hid (z1 ≤ 2147483647 → z1 = ps.length + weightL L) := hz
  have HWB : Hid (Below W.heap.size W wB) := HWA.out.trans (hb.mono HWA.out.size)
  clear hz hb k0 k1 k2 k3
  obtain ⟨k0, k1, k2, k3⟩ := HCL.out wB HWB.out
  by_cases hle : z1 ≤ 2147483647
  case neg =>
    have hzz : (2147483647 : Int) < (z1 : Int) := by omega
    go_wp2
    go_ret
    exact ⟨rfl, HBW.out.trans (HWB.out.mono HBW.out.size)⟩
  case pos =>
  have hzz : ¬ (2147483647 : Int) < (z1 : Int) := by omega
  have HL1 : Hid (Light ps L) := by have := HZ1.out hle; show ps.length + weightL L ≤ _; omega
  clear HZ1
  go_wp2_with fail
  refine (weight_any (HB.out wB HWB.out)).mono ?_
  rintro e wC ⟨⟨z2, rfl, hz⟩, hb⟩
  have HZ2 : Hid (z2 ≤ 2147483647 → z2 = qs.length + weightL M) := hz
  have HWC : Hid (Below W.heap.size W wC) := HWB.out.trans (hb.mono HWB.out.size)
  clear hz hb k0 k1 k2 k3
  obtain ⟨k0, k1, k2, k3⟩ := HCL.out wC HWC.out
  by_cases hle2 : z2 ≤ 2147483647
  case neg =>
    have hzz2 : (2147483647 : Int) < (z2 : Int) := by omega
    go_wp2
    go_ret
    exact ⟨rfl, HBW.out.trans (HWC.out.mono HBW.out.size)⟩
  case pos =>
  have hzz2 : ¬ (2147483647 : Int) < (z2 : Int) := by omega
  have HL2 : Hid (Light qs M) := by have := HZ2.out hle2; show qs.length + weightL M ≤ _; omega
  clear HZ2
  have hpl1 : ps.length ≤ 2147483647 := by have := HL1.out; unfold Light at this; omega
  have hpl2 : qs.length ≤ 2147483647 := by have := HL2.out; unfold Light at this; omega
  have hll1 : L.length ≤ 2147483647 := by have := HL1.out; unfold Light at this; have := weightL_length L; omega
  have hll2 : M.length ≤ 2147483647 := by have := HL2.out; unfold Light at this; have := weightL_length M; omega
  have HKL1 : Hid (∀ k ∈ keysOf L, k.length ≤ 2147483647) := fun k hk => by
    obtain ⟨e, he, rfl⟩ := List.mem_map.1 hk
    have h1 := weightL_mem he
    have := HL1.out
    unfold Light at this
    omega
  have HKL2 : Hid (∀ k ∈ keysOf M, k.length ≤ 2147483647) := fun k hk => by
    obtain ⟨e, he, rfl⟩ := List.mem_map.1 hk
    have h1 := weightL_mem he
    have := HL2.out
    unfold Light at this
    omega
  go_upto_region 5 with fail
  obtain ⟨wD, hD⟩ : ∃ wD, wD = wC.alloc (.cells #[.slice none 0 0, .slice none 0 0] 41) := ⟨_, rfl⟩
  rw [← hD]
  obtain ⟨bo, hbo⟩ : ∃ bo, bo = wC.heap.size := ⟨_, rfl⟩
  rw [← hbo]
  have HCD : Hid (Below wC.heap.size wC wD) := by rw [hD]; exact below_new _ _
  have HWD : Hid (Below W.heap.size W wD) := HWC.out.trans (HCD.out.mono HWC.out.size)
  have HOD : Hid (OutS bo wD (.slice none 0 0) (.slice none 0 0) 0 [] []) := by
    rw [hD, hbo]
    exact ⟨heap_alloc_last _ _, World.ownsRow_nil _ _ _ _, World.ownsRow_nil _ _ _ _, fun k hk => (by cases hk), by simp⟩
  have HWO : Hid (W.heap.size ≤ bo) := by rw [hbo]; exact HWC.out.size
  have HOS : Hid (bo < wD.heap.size) := HOD.out.hB
  clear hD hbo k0 k1 k2 k3 hzz hzz2 hle hle2 HCD
  obtain ⟨k0, k1, k2, k3⟩ := HCL.out wD HWD.out
  go_wp2_with fail
  refine (lend_any (HA.out wD HWD.out) HL1.out).mono ?_
  rintro e w3 ⟨bx, vqx, Fx, rfl, hlo, hfk, hb⟩
  have HLX : Hid (LoanAt wD.heap.size w3 bx vqx ps Fx) := hlo
  have HFX : Hid (Fx.map Lk.k = keysOf L) := hfk
  have HD3 : Hid (Below wD.heap.size wD w3) := hb
  have HW3 : Hid (Below W.heap.size W w3) := HWD.out.trans (hb.mono HWD.out.size)
  have hsD3 : wD.heap.size ≤ w3.heap.size := hb.size
  clear hlo hfk hb k0 k1 k2 k3
  obtain ⟨k0, k1, k2, k3⟩ := HCL.out w3 HW3.out
  go_wp2_with fail
  refine (lend_any (HB.out w3 HW3.out) HL2.out).mono ?_
  rintro e w4 ⟨bz, vqz, Fz, rfl, hlo, hfk, hb⟩
  have HLZ : Hid (LoanAt w3.heap.size w4 bz vqz qs Fz) := hlo
  have HFZ : Hid (Fz.map Lk.k = keysOf M) := hfk
  have H34 : Hid (Below w3.heap.size w3 w4) := hb
  have HW4 : Hid (Below W.heap.size W w4) := HW3.out.trans (hb.mono HW3.out.size)
  have hs34 : w3.heap.size ≤ w4.heap.size := hb.size
  clear hlo hfk hb k0 k1 k2 k3
  obtain ⟨gp, gq, cq, e0⟩ : ∃ gp gq cq, vqx = .agg #[.slice (some ⟨gp, 0, none⟩) ps.length (ps.length + 3), .slice (some ⟨gq, 0, none⟩) L.length cq] := by
    obtain ⟨gp, gl2, cl2, _, _, _, e, _⟩ := HLX.out.is
    have hfl : Fx.length = L.length := by have := congrArg List.length HFX.out; simpa [keysOf] using this
    rw [hfl] at e
    exact ⟨gp, gl2, cl2, e⟩
  subst e0
  obtain ⟨gr, gs, cs, e0⟩ : ∃ gp gq cq, vqz = .agg #[.slice (some ⟨gp, 0, none⟩) qs.length (qs.length + 3), .slice (some ⟨gq, 0, none⟩) M.length cq] := by
    obtain ⟨gp, gl2, cl2, _, _, _, e, _⟩ := HLZ.out.is
    have hfl : Fz.length = M.length := by have := congrArg List.length HFZ.out; simpa [keysOf] using this
    rw [hfl] at e
    exact ⟨gp, gl2, cl2, e⟩
  subst e0
  have HKX : Hid (∀ W', Below w4.heap.size w4 W' → KidsAt W'.heap.size W' (.agg #[.slice (some ⟨gp, 0, none⟩) ps.length (ps.length + 3), .slice (some ⟨gq, 0, none⟩) L.length cq]) ps (Fx.map Lk.kc)) := fun W' hb => by
    have hfl : Fx.length = L.length := by have := congrArg List.length HFX.out; simpa [keysOf] using this
    obtain ⟨_, _, e, h1, h2⟩ := HK0.out.is
    cases e
    exact LoanAt.kids ((HLX.out.here H34.out).here hb) h1.short h1.fits (by rw [hfl]; exact h2.short)
  have HKZ : Hid (∀ W', Below w4.heap.size w4 W' → KidsAt W'.heap.size W' (.agg #[.slice (some ⟨gr, 0, none⟩) qs.length (qs.length + 3), .slice (some ⟨gs, 0, none⟩) M.length cs]) qs (Fz.map Lk.kc)) := fun W' hb => by
    have hfl : Fz.length = M.length := by have := congrArg List.length HFZ.out; simpa [keysOf] using this
    obtain ⟨_, _, e, h1, h2⟩ := HK1.out.is
    cases e
    exact LoanAt.kids (HLZ.out.here hb) h1.short h1.fits (by rw [hfl]; exact h2.short)
  have HCX : Hid (∀ W', Below w3.heap.size w3 W' → W'.cell? ⟨bx, 0, none⟩ = some (.slice (some ⟨gp, 0, none⟩) ps.length (ps.length + 3)) ∧ W'.cell? ⟨bx, 1, none⟩ = some (.slice (some ⟨gq, 0, none⟩) L.length cq)) := fun W' hb => by
    obtain ⟨gp', gl2, cl2, _, _, _, e, hbx, _⟩ := (HLX.out.here hb).is
    simp only [Value.agg.injEq, Array.mk.injEq, List.cons.injEq, Value.slice.injEq, Option.some.injEq, Addr.mk.injEq, and_true] at e
    obtain ⟨⟨rfl, _⟩, ⟨rfl, h9, rfl⟩⟩ := e
    obtain ⟨h1, h2, _⟩ := hbx.cells
    rw [← h9] at h2
    exact ⟨h1, h2⟩
  have HCZ : Hid (∀ W', Below w4.heap.size w4 W' → W'.cell? ⟨bz, 0, none⟩ = some (.slice (some ⟨gr, 0, none⟩) qs.length (qs.length + 3)) ∧ W'.cell? ⟨bz, 1, none⟩ = some (.slice (some ⟨gs, 0, none⟩) M.length cs)) := fun W' hb => by
    obtain ⟨gp', gl2, cl2, _, _, _, e, hbx, _⟩ := (HLZ.out.here hb).is
    simp only [Value.agg.injEq, Array.mk.injEq, List.cons.injEq, Value.slice.injEq, Option.some.injEq, Addr.mk.injEq, and_true] at e
    obtain ⟨⟨rfl, _⟩, ⟨rfl, h9, rfl⟩⟩ := e
    obtain ⟨h1, h2, _⟩ := hbx.cells
    rw [← h9] at h2
    exact ⟨h1, h2⟩
  have hbxl : bx < w3.heap.size := by
    obtain ⟨_, _, _, _, _, _, _, hbx, _⟩ := HLX.out.is
    exact hbx.lt
  have hbzl : bz < w4.heap.size := by
    obtain ⟨_, _, _, _, _, _, _, hbx, _⟩ := HLZ.out.is
    exact hbx.lt
  obtain ⟨n1, hn1⟩ : ∃ n, n = replE (kd ps L) i j (kd qs M) := ⟨_, rfl⟩
  obtain ⟨d1, hd1⟩ : ∃ d, d = replD (kd ps L) i j (kd qs M) := ⟨_, rfl⟩
  have HSD1 : Hid (Small1 d1) := by
    obtain ⟨_, _, e, h1, _⟩ := HK0.out.is
    obtain ⟨_, _, e', h3, _⟩ := HK1.out.is
    cases e
    cases e'
    rw [hd1]
    exact repl_small i j hpl1 hpl2 h1.fits h3.fits hll1 hll2 HKL1.out HKL2.out
  have HRP : Hid (∀ W', Below w4.heap.size w4 W' → Calls Try.prog 23 #[.agg #[.slice (some ⟨gp, 0, none⟩) ps.length (ps.length + 3), .slice (some ⟨gq, 0, none⟩) L.length cq], .int .i64 i, .int .i64 j, .agg #[.slice (some ⟨gr, 0, none⟩) qs.length (qs.length + 3), .slice (some ⟨gs, 0, none⟩) M.length cs]] W' fun r w' => ∃ v', r = .returned (.tuple #[v', .int .i64 (n1 : Nat)]) ∧ NewKids W'.heap.size w' v' d1 ∧ Below W'.heap.size W' w') := fun W' hb => by
    have h := replace_any (i := i) (j := j) (HKX.out W' hb) (HKZ.out W' hb) (by omega) (by
      have hfl : Fx.length = L.length := by have := congrArg List.length HFX.out; simpa [keysOf] using this
      have hfz : Fz.length = M.length := by have := congrArg List.length HFZ.out; simpa [keysOf] using this
      rw [List.length_map, List.length_map, hfl, hfz]; omega)
    rw [kc_keys HFX.out, kc_keys HFZ.out, ← hn1, ← hd1] at h
    exact h
  have HRR : Hid (∀ W', Below W.heap.size W W' → Calls Try.prog 24 #[.agg #[.slice a1 ps.length c1, .slice a2 L.length c2], .int .i64 i, .int .i64 j, .agg #[.slice a3 qs.length c3, .slice a4 M.length c4]] W' fun r w' => ∃ v', r = .returned (.tuple #[v', .int .i64 (n1 : Nat)]) ∧ NewKids W'.heap.size w' v' d1 ∧ Below W'.heap.size W' w') := fun W' hb => by
    have h := refReplace_any (i := i) (j := j) (HA.out W' hb) (HB.out W' hb) hpl1 hpl2
    rw [← hn1, ← hd1] at h
    exact h
  clear hn1 hd1
  have HC4 : Hid (∀ W', Below w4.heap.size w4 W' → W'.cell? ⟨bx, 0, none⟩ = some (.slice (some ⟨gp, 0, none⟩) ps.length (ps.length + 3)) ∧ W'.cell? ⟨bx, 1, none⟩ = some (.slice (some ⟨gq, 0, none⟩) L.length cq) ∧ W'.cell? ⟨bz, 0, none⟩ = some (.slice (some ⟨gr, 0, none⟩) qs.length (qs.length + 3)) ∧ W'.cell? ⟨bz, 1, none⟩ = some (.slice (some ⟨gs, 0, none⟩) M.length cs)) := fun W' hb =>
    ⟨(HCX.out W' (H34.out.trans (hb.mono hs34))).1, (HCX.out W' (H34.out.trans (hb.mono hs34))).2, (HCZ.out W' hb).1, (HCZ.out W' hb).2⟩
  -- Replace, the first time
  obtain ⟨x0, x1, z0, z1c⟩ := HC4.out w4 (Below.refl _ _)
  go_upto_region 7 with fail
  go_cut [13, 14] (fun sA sB wx => sB = .int .i64 (n1 : Nat) ∧ KVar w4 wx sA d1)
  case first =>
    go_region_held_law (fun W' => W'.cell? ⟨bx, 0, none⟩ = some (.slice (some ⟨gp, 0, none⟩) ps.length (ps.length + 3)) ∧ W'.cell? ⟨bx, 1, none⟩ = some (.slice (some ⟨gq, 0, none⟩) L.length cq) ∧ W'.cell? ⟨bz, 0, none⟩ = some (.slice (some ⟨gr, 0, none⟩) qs.length (qs.length + 3)) ∧ W'.cell? ⟨bz, 1, none⟩ = some (.slice (some ⟨gs, 0, none⟩) M.length cs)) (first | (refine ⟨?_, ?_, ?_, ?_⟩ <;> with_reducible assumption) | (refine ⟨?_, ?_, ?_, ?_⟩ <;> (rw [put_far2 (by omega), put_far2 (by omega)]; with_reducible assumption)) | (go_keep; done))
      (first | (go_at_call 23; go_loud (
                refine Calls.mono (HRP.out _ (by first | exact Below.refl _ _ | exact (Below.refl _ _).drew | exact below_new _ _ | exact (below_new _ _).drew)) ?_
                rintro e w9 ⟨v', rfl, hn9, hb9⟩
                obtain ⟨vp', vk', F', rfl, hi9, hk9, hf9⟩ := hn9.is
                obtain ⟨b1, e1, rfl⟩ := own_form hi9.own
                obtain ⟨b2, e2, rfl⟩ := own_form hk9.own
                have HI9 : Hid _ := hi9
                have HN9 : Hid _ := hk9
                have HF9 : Hid _ := hf9
                have HX9 : Hid (Below w4.heap.size w4 w9) := by first | exact hb9 | exact ((Below.refl _ _).drew).trans hb9 | exact (below_new _ _).trans (hb9.mono (by simp)) | exact ((below_new _ _).drew).trans (hb9.mono (by simp))
                obtain ⟨x0', x1', z0', z1'⟩ := HC4.out w9 HX9.out
                first
                  | (have hx9 : KBox w9 w4.heap.size (.slice none 0 0) (.slice none 0 0) := (KBox.new w4 (.slice none 0 0) (.slice none 0 0)).here (by first | exact hb9 | exact ((Below.refl _ _).drew).trans hb9)
                     have HA9 : Hid (Below (w4.alloc (.cells #[.slice none 0 0, .slice none 0 0] 26)).heap.size (w4.alloc (.cells #[.slice none 0 0, .slice none 0 0] 26)) w9) := by first | exact hb9 | exact ((Below.refl _ _).drew).trans hb9
                     obtain ⟨p0, p1⟩ := hx9.cells
                     obtain ⟨f0, f1⟩ := hx9.open
                     clear hx9)
                  | skip
                clear hn9 hb9 hi9 hk9 hf9)))
    all_goals
      go_wp2_with fail
      go_meet
      first | exact ⟨rfl, kvar_c HX9.out HI9.out HN9.out HF9.out⟩ | exact ⟨rfl, kvar_a rfl HA9.out HI9.out HN9.out HF9.out⟩ | exact ⟨rfl, (kvar_c HX9.out HI9.out HN9.out HF9.out).drew⟩ | exact ⟨rfl, (kvar_a rfl HA9.out HI9.out HN9.out HF9.out).drew⟩
  case rest =>
    obtain ⟨rfl, hsv⟩ := hcut
    obtain ⟨ga, sa, ta, ma, oa, Fa, rfl, hga, hbx, hin, hke, hfe, hb⟩ := hsv.is
    obtain ⟨w5, rfl⟩ : ∃ w5, w5 = wc := ⟨_, rfl⟩
    have HBa : Hid (KBox w5 ga (.slice sa d1.ps.length ma) (.slice ta Fa.length oa)) := hbx
    have HIa : Hid (NewInts w4.heap.size w5 (.slice sa d1.ps.length ma) d1.ps) := hin
    have HNa : Hid (NewKeys w4.heap.size w5 (.slice ta Fa.length oa) Fa) := hke
    have HFa : Hid (keysOf Fa = d1.ks) := hfe
    have Ha : Hid (Below w4.heap.size w4 w5) := hb
    have hsa : w4.heap.size ≤ w5.heap.size := hb.size
    have hla : ga < w5.heap.size := hbx.lt
    clear hsv hbx hin hke hfe hb
    clear x0 x1 z0 z1c
    have HRP5 : Hid (∀ W', Below w5.heap.size w5 W' → Calls Try.prog 23 #[.agg #[.slice (some ⟨gp, 0, none⟩) ps.length (ps.length + 3), .slice (some ⟨gq, 0, none⟩) L.length cq], .int .i64 i, .int .i64 j, .agg #[.slice (some ⟨gr, 0, none⟩) qs.length (qs.length + 3), .slice (some ⟨gs, 0, none⟩) M.length cs]] W' fun r w' => ∃ v', r = .returned (.tuple #[v', .int .i64 (n1 : Nat)]) ∧ NewKids W'.heap.size w' v' d1 ∧ Below W'.heap.size W' w') := fun W' hb => HRP.out W' (Ha.out.trans (hb.mono hsa))
    have HC5 : Hid (∀ W', Below w5.heap.size w5 W' → W'.cell? ⟨bx, 0, none⟩ = some (.slice (some ⟨gp, 0, none⟩) ps.length (ps.length + 3)) ∧ W'.cell? ⟨bx, 1, none⟩ = some (.slice (some ⟨gq, 0, none⟩) L.length cq) ∧ W'.cell? ⟨bz, 0, none⟩ = some (.slice (some ⟨gr, 0, none⟩) qs.length (qs.length + 3)) ∧ W'.cell? ⟨bz, 1, none⟩ = some (.slice (some ⟨gs, 0, none⟩) M.length cs)) := fun W' hb => HC4.out W' (Ha.out.trans (hb.mono hsa))
    clear HRP HC4
    -- and again
    obtain ⟨x0, x1, z0, z1c⟩ := HC5.out w5 (Below.refl _ _)
    go_upto_region 8 with fail
    go_cut [15, 16] (fun sA sB wx => sB = .int .i64 (n1 : Nat) ∧ KVar w5 wx sA d1)
    case first =>
      go_region_held_law (fun W' => W'.cell? ⟨bx, 0, none⟩ = some (.slice (some ⟨gp, 0, none⟩) ps.length (ps.length + 3)) ∧ W'.cell? ⟨bx, 1, none⟩ = some (.slice (some ⟨gq, 0, none⟩) L.length cq) ∧ W'.cell? ⟨bz, 0, none⟩ = some (.slice (some ⟨gr, 0, none⟩) qs.length (qs.length + 3)) ∧ W'.cell? ⟨bz, 1, none⟩ = some (.slice (some ⟨gs, 0, none⟩) M.length cs)) (first | (refine ⟨?_, ?_, ?_, ?_⟩ <;> with_reducible assumption) | (refine ⟨?_, ?_, ?_, ?_⟩ <;> (rw [put_far2 (by omega), put_far2 (by omega)]; with_reducible assumption)) | (go_keep; done))
        (first | (go_at_call 23; go_loud (
                  refine Calls.mono (HRP5.out _ (by first | exact Below.refl _ _ | exact (Below.refl _ _).drew | exact below_new _ _ | exact (below_new _ _).drew)) ?_
                  rintro e w9 ⟨v', rfl, hn9, hb9⟩
                  obtain ⟨vp', vk', F', rfl, hi9, hk9, hf9⟩ := hn9.is
                  obtain ⟨b1, e1, rfl⟩ := own_form hi9.own
                  obtain ⟨b2, e2, rfl⟩ := own_form hk9.own
                  have HI9 : Hid _ := hi9
                  have HN9 : Hid _ := hk9
                  have HF9 : Hid _ := hf9
                  have HX9 : Hid (Below w5.heap.size w5 w9) := by first | exact hb9 | exact ((Below.refl _ _).drew).trans hb9 | exact (below_new _ _).trans (hb9.mono (by simp)) | exact ((below_new _ _).drew).trans (hb9.mono (by simp))
                  obtain ⟨x0', x1', z0', z1'⟩ := HC5.out w9 HX9.out
                  first
                    | (have hx9 : KBox w9 w5.heap.size (.slice none 0 0) (.slice none 0 0) := (KBox.new w5 (.slice none 0 0) (.slice none 0 0)).here (by first | exact hb9 | exact ((Below.refl _ _).drew).trans hb9)
                       have HA9 : Hid (Below (w5.alloc (.cells #[.slice none 0 0, .slice none 0 0] 26)).heap.size (w5.alloc (.cells #[.slice none 0 0, .slice none 0 0] 26)) w9) := by first | exact hb9 | exact ((Below.refl _ _).drew).trans hb9
                       obtain ⟨p0, p1⟩ := hx9.cells
                       obtain ⟨f0, f1⟩ := hx9.open
                       clear hx9)
                    | skip
                  clear hn9 hb9 hi9 hk9 hf9)))
      all_goals
        go_wp2_with fail
        go_meet
        first | exact ⟨rfl, kvar_c HX9.out HI9.out HN9.out HF9.out⟩ | exact ⟨rfl, kvar_a rfl HA9.out HI9.out HN9.out HF9.out⟩ | exact ⟨rfl, (kvar_c HX9.out HI9.out HN9.out HF9.out).drew⟩ | exact ⟨rfl, (kvar_a rfl HA9.out HI9.out HN9.out HF9.out).drew⟩
    case rest =>
      obtain ⟨rfl, hsv⟩ := hcut
      obtain ⟨gb, sb, tb, mb, ob, Fb, rfl, hgb, hbx, hin, hke, hfe, hb⟩ := hsv.is
      obtain ⟨w6, rfl⟩ : ∃ w6, w6 = wc := ⟨_, rfl⟩
      have HBb : Hid (KBox w6 gb (.slice sb d1.ps.length mb) (.slice tb Fb.length ob)) := hbx
      have HIb : Hid (NewInts w5.heap.size w6 (.slice sb d1.ps.length mb) d1.ps) := hin
      have HNb : Hid (NewKeys w5.heap.size w6 (.slice tb Fb.length ob) Fb) := hke
      have HFb : Hid (keysOf Fb = d1.ks) := hfe
      have Hb : Hid (Below w5.heap.size w5 w6) := hb
      have hsb : w5.heap.size ≤ w6.heap.size := hb.size
      have hlb : gb < w6.heap.size := hbx.lt
      clear hsv hbx hin hke hfe hb
      clear x0 x1 z0 z1c HRP5 HC5
      -- as the document has it
      have HW6 : Hid (Below W.heap.size W w6) := (HW4.out.trans (Ha.out.mono HW4.out.size)).trans (Hb.out.mono (Nat.le_trans HW4.out.size hsa))
      obtain ⟨k0, k1, k2, k3⟩ := HCL.out w6 HW6.out
      go_upto_region 9 with fail
      go_cut [17, 18] (fun sA sB wx => sB = .int .i64 (n1 : Nat) ∧ KVar w6 wx sA d1)
      case first =>
        go_wp2_with fail
        refine Calls.mono (HRR.out w6 HW6.out) ?_
        rintro e w9 ⟨v', rfl, hn9, hb9⟩
        obtain ⟨vp', vk', F', rfl, hi9, hk9, hf9⟩ := hn9.is
        obtain ⟨b1, e1, rfl⟩ := own_form hi9.own
        obtain ⟨b2, e2, rfl⟩ := own_form hk9.own
        have HI9 : Hid _ := hi9
        have HN9 : Hid _ := hk9
        have HF9 : Hid _ := hf9
        have HX9 : Hid (Below w6.heap.size w6 w9) := hb9
        clear hn9 hb9 hi9 hk9 hf9
        go_wp2_with fail
        go_meet
        first | exact ⟨rfl, kvar_c HX9.out HI9.out HN9.out HF9.out⟩ | exact ⟨rfl, (kvar_c HX9.out HI9.out HN9.out HF9.out).drew⟩
      case rest =>
        obtain ⟨rfl, hsv⟩ := hcut
        obtain ⟨gw, sw, tw, mw, ow, Fw, rfl, hgw, hbx, hin, hke, hfe, hb⟩ := hsv.is
        obtain ⟨w7, rfl⟩ : ∃ w7, w7 = wc := ⟨_, rfl⟩
        have HBw : Hid (KBox w7 gw (.slice sw d1.ps.length mw) (.slice tw Fw.length ow)) := hbx
        have HIw : Hid (NewInts w6.heap.size w7 (.slice sw d1.ps.length mw) d1.ps) := hin
        have HNw : Hid (NewKeys w6.heap.size w7 (.slice tw Fw.length ow) Fw) := hke
        have HFw : Hid (keysOf Fw = d1.ks) := hfe
        have Hw : Hid (Below w6.heap.size w6 w7) := hb
        have hsw : w6.heap.size ≤ w7.heap.size := hb.size
        have hlw : gw < w7.heap.size := hbx.lt
        clear hsv hbx hin hke hfe hb
        clear k0 k1 k2 k3 HRR
        have HW7 : Hid (Below W.heap.size W w7) := HW6.out.trans (Hw.out.mono HW6.out.size)
        have HD7 : Hid (Below wD.heap.size wD w7) := (((HD3.out.trans (H34.out.mono hsD3)).trans (Ha.out.mono (Nat.le_trans hsD3 hs34))).trans (Hb.out.mono (Nat.le_trans (Nat.le_trans hsD3 hs34) hsa))).trans (Hw.out.mono (Nat.le_trans (Nat.le_trans (Nat.le_trans hsD3 hs34) hsa) hsb))
        have HO7 : Hid (OutS bo w7 (.slice none 0 0) (.slice none 0 0) 0 [] []) := HOD.out.here HD7.out
        have HBa7 : Hid (KBox w7 ga (.slice sa d1.ps.length ma) (.slice ta Fa.length oa)) := (HBa.out.here Hb.out).here Hw.out
        have HBb7 : Hid (KBox w7 gb (.slice sb d1.ps.length mb) (.slice tb Fb.length ob)) := HBb.out.here Hw.out
        have HKA7 : Hid (NewKo w4.heap.size w5.heap.size w7 (⟨.slice sa d1.ps.length ma, .slice ta Fa.length oa, d1.ps, Fa⟩ : Ko)) := (NewKo.of (e := (⟨.slice sa d1.ps.length ma, .slice ta Fa.length oa, d1.ps, Fa⟩ : Ko)) HIa.out HNa.out).move fun k _ h2 => (Hw.out.block k (Nat.lt_of_lt_of_le h2 hsb)).trans (Hb.out.block k h2)
        have HKB7 : Hid (NewKo w5.heap.size w6.heap.size w7 (⟨.slice sb d1.ps.length mb, .slice tb Fb.length ob, d1.ps, Fb⟩ : Ko)) := (NewKo.of (e := (⟨.slice sb d1.ps.length mb, .slice tb Fb.length ob, d1.ps, Fb⟩ : Ko)) HIb.out HNb.out).move fun k _ h2 => Hw.out.block k h2
        have HKW7 : Hid (NewKo w6.heap.size w7.heap.size w7 (⟨.slice sw d1.ps.length mw, .slice tw Fw.length ow, d1.ps, Fw⟩ : Ko)) := NewKo.of (e := (⟨.slice sw d1.ps.length mw, .slice tw Fw.length ow, d1.ps, Fw⟩ : Ko)) HIw.out HNw.out
        have HEA : Hid (kd d1.ps Fa = kd d1.ps Fw) := by rw [Hid, kd, kd, HFa.out, HFw.out]
        have HEB : Hid (kd d1.ps Fb = kd d1.ps Fw) := by rw [Hid, kd, kd, HFb.out, HFw.out]
        have HFL : Hid (Fa.length ≤ 8589934592 ∧ Fb.length ≤ 8589934592) := by
          have h1 := congrArg List.length HFa.out
          have h2 := congrArg List.length HFb.out
          have h3 := HSD1.out.m
          rw [keysOf_length] at h1 h2
          exact ⟨by omega, by omega⟩
        have hbo4 : bo < w4.heap.size := by have := HOS.out; omega
        clear HIa HNa HIb HNb HIw HNw HBa HBb HOD HD7
        -- kept
        obtain ⟨u0, u1⟩ := HBa7.out.cells
        obtain ⟨v0, v1⟩ := HBw.out.cells
        have HKP : Hid _ := keep_any HO7.out HKA7.out.p HKA7.out.k HKW7.out.p HKW7.out.k HEA.out (by omega) (by have := HSD1.out.n; show d1.ps.length * 8 ≤ _; omega) HSD1.out.f (by have := HFL.out.1; show Fa.length * 24 ≤ _; omega)
        go_wp2_with fail
        refine Calls.mono HKP.out ?_
        rintro e w8 ⟨rfl, vl8, vw8, ho8, hk8, hf8⟩
        have HO8 : Hid (OutS bo w8 vl8 vw8 1 _ _) := ho8
        have HT8 : Hid (∀ k, bo < k → k < w7.heap.size → w8.heap[k]? = w7.heap[k]?) := fun k h1 h2 => hk8.block k h2 (by rintro (e | e | e); omega; cases e; cases e)
        have HV8 : Hid (∀ k, vl8.ownBlock = some k ∨ vw8.ownBlock = some k → w7.heap.size ≤ k) := fun k hk => by
          rcases hf8 k hk with (e | e) | e
          · cases e
          · cases e
          · exact e
        have hs78 : w7.heap.size ≤ w8.heap.size := hk8.size
        have HW8 : Hid (Below W.heap.size W w8) := HW7.out.trans (hk8.below HW7.out.size fun k e => by
          have := HWO.out
          rcases e with e | e | e
          · omega
          · cases e
          · cases e)
        clear ho8 hk8 hf8 HKP u0 u1 v0 v1
        have HBb8 : Hid (KBox w8 gb (.slice sb d1.ps.length mb) (.slice tb Fb.length ob)) := ⟨(HT8.out gb (by omega) (by omega)).trans HBb7.out.row⟩
        have HBw8 : Hid (KBox w8 gw (.slice sw d1.ps.length mw) (.slice tw Fw.length ow)) := ⟨(HT8.out gw (by omega) hlw).trans HBw.out.row⟩
        have HKB8 : Hid (NewKo w5.heap.size w6.heap.size w8 (⟨.slice sb d1.ps.length mb, .slice tb Fb.length ob, d1.ps, Fb⟩ : Ko)) := HKB7.out.move fun k h1 h2 => HT8.out k (by omega) (by omega)
        have HKW8 : Hid (NewKo w6.heap.size w7.heap.size w8 (⟨.slice sw d1.ps.length mw, .slice tw Fw.length ow, d1.ps, Fw⟩ : Ko)) := HKW7.out.move fun k h1 h2 => HT8.out k (by omega) (by omega)
        obtain ⟨u0, u1⟩ := HBb8.out.cells
        obtain ⟨v0, v1⟩ := HBw8.out.cells
        have HKP : Hid _ := keep_any HO8.out HKB8.out.p HKB8.out.k HKW8.out.p HKW8.out.k HEB.out (by omega) (by have := HSD1.out.n; show d1.ps.length * 8 ≤ _; omega) HSD1.out.f (by have := HFL.out.2; show Fb.length * 24 ≤ _; omega)
        go_wp2_with fail
        refine Calls.mono HKP.out ?_
        rintro e w9 ⟨rfl, vl9, vw9, ho9, hk9, hf9⟩
        have HO9 : Hid (OutS bo w9 vl9 vw9 2 _ _) := ho9
        have HT9 : Hid (∀ k, bo < k → k < w7.heap.size → w9.heap[k]? = w7.heap[k]?) := fun k h1 h2 => (hk9.block k (by omega) (by
          rintro (e | e | e)
          · omega
          · have := HV8.out k (.inl e); omega
          · have := HV8.out k (.inr e); omega)).trans (HT8.out k h1 h2)
        have HV9 : Hid (∀ k, vl9.ownBlock = some k ∨ vw9.ownBlock = some k → w7.heap.size ≤ k) := fun k hk => by
          rcases hf9 k hk with e | e
          · exact HV8.out k e
          · omega
        have hs79 : w7.heap.size ≤ w9.heap.size := Nat.le_trans hs78 hk9.size
        have HW9 : Hid (Below W.heap.size W w9) := HW8.out.trans (hk9.below HW8.out.size fun k e => by
          have h1 := HWO.out
          have h2 := HW7.out.size
          rcases e with e | e | e
          · omega
          · have := HV8.out k (.inl e); omega
          · have := HV8.out k (.inr e); omega)
        clear ho9 hk9 hf9 HKP u0 u1 v0 v1 HO8 HO7 HBb8 HBw8 HKB8 HKW8 HV8 HT8
        -- they stay
        have H37 : Hid (Below w3.heap.size w3 w7) := ((H34.out.trans (Ha.out.mono hs34)).trans (Hb.out.mono (Nat.le_trans hs34 hsa))).trans (Hw.out.mono (Nat.le_trans (Nat.le_trans hs34 hsa) hsb))
        have H47 : Hid (Below w4.heap.size w4 w7) := (Ha.out.trans (Hb.out.mono hsa)).trans (Hw.out.mono (Nat.le_trans hsa hsb))
        have hWD : W.heap.size ≤ wD.heap.size := HWD.out.size
        obtain ⟨k0, k1, _, _⟩ := HCL.out w9 HW9.out
        have HST : Hid _ := stays_far (w := w9) HLX.out rfl (fun k h1 h2 => (HT9.out k (by have := HOS.out; omega) (by omega)).trans (H37.out.block k h2)) (by omega) hsD3 HFX.out ((HK0.out.below HW9.out).mono hWD) hpl1 hll1
        go_wp2_with fail
        refine Calls.mono HST.out ?_
        rintro e w10 ⟨rfl, hm, ps', L', hkk, hpl, hll, x, y, hxy, c0, c1x⟩
        simp only [Value.agg.injEq, Array.mk.injEq, List.cons.injEq, and_true] at hxy
        obtain ⟨rfl, rfl⟩ := hxy
        have HMX : Hid (Mid wD.heap.size w3.heap.size w9 w10) := hm
        have HKK : Hid (KidsAt w3.heap.size w10 (.agg #[.slice (some ⟨gp, 0, none⟩) ps.length (ps.length + 3), .slice (some ⟨gq, 0, none⟩) L.length cq]) ps' L') := hkk
        have HPL : Hid (ps'.length = ps.length ∧ L'.map (fun e => e.k.length) = L.map (fun e => e.k.length)) := ⟨hpl, hll⟩
        have HCX10 : Hid (w10.cell? ⟨bx, 0, none⟩ = some (.slice (some ⟨gp, 0, none⟩) ps.length (ps.length + 3)) ∧ w10.cell? ⟨bx, 1, none⟩ = some (.slice (some ⟨gq, 0, none⟩) L.length cq)) := ⟨c0, c1x⟩
        have HW10 : Hid (Below W.heap.size W w10) := HW9.out.trans (hm.low.mono hWD)
        have hs910 : w9.heap.size ≤ w10.heap.size := hm.low.size
        clear hm hkk hpl hll c0 c1x HST k0 k1
        obtain ⟨_, _, k2, k3⟩ := HCL.out w10 HW10.out
        have HST : Hid _ := stays_far (w := w10) HLZ.out rfl (fun k h1 h2 => ((HMX.out.high k h1 (by omega)).trans (HT9.out k (by have := HOS.out; omega) (by omega))).trans (H47.out.block k h2)) (by omega) hs34 HFZ.out ((HK1.out.below HW10.out).mono (by omega)) hpl2 hll2
        go_wp2_with fail
        refine Calls.mono HST.out ?_
        rintro e w11 ⟨rfl, hm, qs', M', hkk, hpl, hll, x, y, hxy, c0, c1x⟩
        simp only [Value.agg.injEq, Array.mk.injEq, List.cons.injEq, and_true] at hxy
        obtain ⟨rfl, rfl⟩ := hxy
        have HMZ : Hid (Mid w3.heap.size w4.heap.size w10 w11) := hm
        have HKZ11 : Hid (KidsAt w4.heap.size w11 (.agg #[.slice (some ⟨gr, 0, none⟩) qs.length (qs.length + 3), .slice (some ⟨gs, 0, none⟩) M.length cs]) qs' M') := hkk
        have HKX11 : Hid (KidsAt w3.heap.size w11 (.agg #[.slice (some ⟨gp, 0, none⟩) ps.length (ps.length + 3), .slice (some ⟨gq, 0, none⟩) L.length cq]) ps' L') := HKK.out.below hm.low
        have HQL : Hid (qs'.length = qs.length ∧ M'.map (fun e => e.k.length) = M.map (fun e => e.k.length)) := ⟨hpl, hll⟩
        have hs1011 : w10.heap.size ≤ w11.heap.size := hm.low.size
        have HC11 : Hid (∀ W', Below w11.heap.size w11 W' → W'.cell? ⟨bx, 0, none⟩ = some (.slice (some ⟨gp, 0, none⟩) ps.length (ps.length + 3)) ∧ W'.cell? ⟨bx, 1, none⟩ = some (.slice (some ⟨gq, 0, none⟩) L.length cq) ∧ W'.cell? ⟨bz, 0, none⟩ = some (.slice (some ⟨gr, 0, none⟩) qs.length (qs.length + 3)) ∧ W'.cell? ⟨bz, 1, none⟩ = some (.slice (some ⟨gs, 0, none⟩) M.length cs)) := fun W' hb => by
          have hx : ∀ o, W'.cell? ⟨bx, o, none⟩ = w10.cell? ⟨bx, o, none⟩ := fun o => (hb.cell (show bx < w11.heap.size by omega)).trans (hm.low.cell hbxl)
          have hz : ∀ o, W'.cell? ⟨bz, o, none⟩ = w11.cell? ⟨bz, o, none⟩ := fun o => hb.cell (show bz < w11.heap.size by omega)
          exact ⟨(hx 0).trans HCX10.out.1, (hx 1).trans HCX10.out.2, (hz 0).trans c0, (hz 1).trans c1x⟩
        have HT11 : Hid (∀ k, w4.heap.size ≤ k → k < w9.heap.size → w11.heap[k]? = w9.heap[k]?) := fun k h1 h2 => (hm.high k h1 (by omega)).trans (HMX.out.high k (by omega) h2)
        have HW11 : Hid (Below W.heap.size W w11) := HW10.out.trans (hm.low.mono (by omega))
        have HO11 : Hid (OutS bo w11 vl9 vw9 2 _ _) := HO9.out.move (fun k hk => by
          have h1 := HOS.out
          rcases hk with rfl | hk
          · exact (hm.low.block k (by omega)).trans (HMX.out.low.block k h1)
          · have h2 := HV9.out k hk
            have h3 : k < w9.heap.size := by
              rcases hk with e | e
              · exact (own_type HO9.out.ol k e).1
              · exact (own_type HO9.out.ow k e).1
            exact HT11.out k (by omega) h3) (by omega)
        clear hm hkk hpl hll c0 c1x HST k2 k3 HKK HCX10
        obtain ⟨n2, hn2⟩ : ∃ n, n = replE (kd ps' L') i j (kd qs' M') := ⟨_, rfl⟩
        obtain ⟨d2, hd2⟩ : ∃ d, d = replD (kd ps' L') i j (kd qs' M') := ⟨_, rfl⟩
        have hpl3 : ps'.length ≤ 2147483647 := by have := HPL.out.1; omega
        have hpl4 : qs'.length ≤ 2147483647 := by have := HQL.out.1; omega
        have hll3 : L'.length ≤ 2147483647 := by have := lens_length HPL.out.2; omega
        have hll4 : M'.length ≤ 2147483647 := by have := lens_length HQL.out.2; omega
        have HSD2 : Hid (Small1 d2) := by
          obtain ⟨_, _, e, h1, _⟩ := HKX11.out.is
          obtain ⟨_, _, e', h3, _⟩ := HKZ11.out.is
          rw [hd2]
          exact repl_small i j hpl3 hpl4 h1.fits h3.fits hll3 hll4 (lens_le HPL.out.2 HKL1.out) (lens_le HQL.out.2 HKL2.out)
        have HRP2 : Hid (∀ W', Below w11.heap.size w11 W' → Calls Try.prog 23 #[.agg #[.slice (some ⟨gp, 0, none⟩) ps.length (ps.length + 3), .slice (some ⟨gq, 0, none⟩) L.length cq], .int .i64 i, .int .i64 j, .agg #[.slice (some ⟨gr, 0, none⟩) qs.length (qs.length + 3), .slice (some ⟨gs, 0, none⟩) M.length cs]] W' fun r w' => ∃ v', r = .returned (.tuple #[v', .int .i64 (n2 : Nat)]) ∧ NewKids W'.heap.size w' v' d2 ∧ Below W'.heap.size W' w') := fun W' hb => by
          have h := replace_any (i := i) (j := j) ((HKX11.out.mono (by omega)).here hb) ((HKZ11.out.mono (by omega)).here hb) (by omega) (by omega)
          rw [← hn2, ← hd2] at h
          exact h
        have HRR2 : Hid (∀ W', Below w11.heap.size w11 W' → Calls Try.prog 24 #[.agg #[.slice (some ⟨gp, 0, none⟩) ps.length (ps.length + 3), .slice (some ⟨gq, 0, none⟩) L.length cq], .int .i64 i, .int .i64 j, .agg #[.slice (some ⟨gr, 0, none⟩) qs.length (qs.length + 3), .slice (some ⟨gs, 0, none⟩) M.length cs]] W' fun r w' => ∃ v', r = .returned (.tuple #[v', .int .i64 (n2 : Nat)]) ∧ NewKids W'.heap.size w' v' d2 ∧ Below W'.heap.size W' w') := fun W' hb => by
          have h := refReplace_any (i := i) (j := j) ((HKX11.out.mono (by omega)).here hb) ((HKZ11.out.mono (by omega)).here hb) hpl3 hpl4
          rw [← hn2, ← hd2] at h
          exact h
        clear hn2 hd2
        obtain ⟨x0, x1, z0, z1c⟩ := HC11.out w11 (Below.refl _ _)
        go_upto_region 14 with fail
        go_cut [23, 24] (fun sA sB wx => sB = .int .i64 (n2 : Nat) ∧ KVar w11 wx sA d2)
        case first =>
          go_region_held_law (fun W' => W'.cell? ⟨bx, 0, none⟩ = some (.slice (some ⟨gp, 0, none⟩) ps.length (ps.length + 3)) ∧ W'.cell? ⟨bx, 1, none⟩ = some (.slice (some ⟨gq, 0, none⟩) L.length cq) ∧ W'.cell? ⟨bz, 0, none⟩ = some (.slice (some ⟨gr, 0, none⟩) qs.length (qs.length + 3)) ∧ W'.cell? ⟨bz, 1, none⟩ = some (.slice (some ⟨gs, 0, none⟩) M.length cs)) (first | (refine ⟨?_, ?_, ?_, ?_⟩ <;> with_reducible assumption) | (refine ⟨?_, ?_, ?_, ?_⟩ <;> (rw [put_far2 (by omega), put_far2 (by omega)]; with_reducible assumption)) | (go_keep; done))
            (first | (go_at_call 23; go_loud (
                      refine Calls.mono (HRP2.out _ (by first | exact Below.refl _ _ | exact (Below.refl _ _).drew | exact below_new _ _ | exact (below_new _ _).drew)) ?_
                      rintro e w9 ⟨v', rfl, hn9, hb9⟩
                      obtain ⟨vp', vk', F', rfl, hi9, hk9, hf9⟩ := hn9.is
                      obtain ⟨b1, e1, rfl⟩ := own_form hi9.own
                      obtain ⟨b2, e2, rfl⟩ := own_form hk9.own
                      have HI9 : Hid _ := hi9
                      have HN9 : Hid _ := hk9
                      have HF9 : Hid _ := hf9
                      have HX9 : Hid (Below w11.heap.size w11 w9) := by first | exact hb9 | exact ((Below.refl _ _).drew).trans hb9 | exact (below_new _ _).trans (hb9.mono (by simp)) | exact ((below_new _ _).drew).trans (hb9.mono (by simp))
                      obtain ⟨x0', x1', z0', z1'⟩ := HC11.out w9 HX9.out
                      first
                        | (have hx9 : KBox w9 w11.heap.size (.slice none 0 0) (.slice none 0 0) := (KBox.new w11 (.slice none 0 0) (.slice none 0 0)).here (by first | exact hb9 | exact ((Below.refl _ _).drew).trans hb9)
                           have HA9 : Hid (Below (w11.alloc (.cells #[.slice none 0 0, .slice none 0 0] 26)).heap.size (w11.alloc (.cells #[.slice none 0 0, .slice none 0 0] 26)) w9) := by first | exact hb9 | exact ((Below.refl _ _).drew).trans hb9
                           obtain ⟨p0, p1⟩ := hx9.cells
                           obtain ⟨f0, f1⟩ := hx9.open
                           clear hx9)
                        | skip
                      clear hn9 hb9 hi9 hk9 hf9)))
          all_goals
            go_wp2_with fail
            go_meet
            first | exact ⟨rfl, kvar_c HX9.out HI9.out HN9.out HF9.out⟩ | exact ⟨rfl, kvar_a rfl HA9.out HI9.out HN9.out HF9.out⟩ | exact ⟨rfl, (kvar_c HX9.out HI9.out HN9.out HF9.out).drew⟩ | exact ⟨rfl, (kvar_a rfl HA9.out HI9.out HN9.out HF9.out).drew⟩
        case rest =>
          obtain ⟨rfl, hsv⟩ := hcut
          obtain ⟨gc, sc, tc, mc, oc, Fc, rfl, hgc, hbx, hin, hke, hfe, hb⟩ := hsv.is
          obtain ⟨w12, rfl⟩ : ∃ w12, w12 = wc := ⟨_, rfl⟩
          have HBc : Hid (KBox w12 gc (.slice sc d2.ps.length mc) (.slice tc Fc.length oc)) := hbx
          have HIc : Hid (NewInts w11.heap.size w12 (.slice sc d2.ps.length mc) d2.ps) := hin
          have HNc : Hid (NewKeys w11.heap.size w12 (.slice tc Fc.length oc) Fc) := hke
          have HFc : Hid (keysOf Fc = d2.ks) := hfe
          have Hc : Hid (Below w11.heap.size w11 w12) := hb
          have hsc : w11.heap.size ≤ w12.heap.size := hb.size
          have hlc : gc < w12.heap.size := hbx.lt
          clear hsv hbx hin hke hfe hb
          clear x0 x1 z0 z1c HRP2
          have HRR3 : Hid (∀ W', Below w12.heap.size w12 W' → Calls Try.prog 24 #[.agg #[.slice (some ⟨gp, 0, none⟩) ps.length (ps.length + 3), .slice (some ⟨gq, 0, none⟩) L.length cq], .int .i64 i, .int .i64 j, .agg #[.slice (some ⟨gr, 0, none⟩) qs.length (qs.length + 3), .slice (some ⟨gs, 0, none⟩) M.length cs]] W' fun r w' => ∃ v', r = .returned (.tuple #[v', .int .i64 (n2 : Nat)]) ∧ NewKids W'.heap.size w' v' d2 ∧ Below W'.heap.size W' w') := fun W' hb => HRR2.out W' (Hc.out.trans (hb.mono hsc))
          have HC12 : Hid (∀ W', Below w12.heap.size w12 W' → W'.cell? ⟨bx, 0, none⟩ = some (.slice (some ⟨gp, 0, none⟩) ps.length (ps.length + 3)) ∧ W'.cell? ⟨bx, 1, none⟩ = some (.slice (some ⟨gq, 0, none⟩) L.length cq) ∧ W'.cell? ⟨bz, 0, none⟩ = some (.slice (some ⟨gr, 0, none⟩) qs.length (qs.length + 3)) ∧ W'.cell? ⟨bz, 1, none⟩ = some (.slice (some ⟨gs, 0, none⟩) M.length cs)) := fun W' hb => HC11.out W' (Hc.out.trans (hb.mono hsc))
          clear HRR2 HC11
          obtain ⟨x0, x1, z0, z1c⟩ := HC12.out w12 (Below.refl _ _)
          go_upto_region 15 with fail
          go_cut [25, 26] (fun sA sB wx => sB = .int .i64 (n2 : Nat) ∧ KVar w12 wx sA d2)
          case first =>
            go_region_held_law (fun W' => W'.cell? ⟨bx, 0, none⟩ = some (.slice (some ⟨gp, 0, none⟩) ps.length (ps.length + 3)) ∧ W'.cell? ⟨bx, 1, none⟩ = some (.slice (some ⟨gq, 0, none⟩) L.length cq) ∧ W'.cell? ⟨bz, 0, none⟩ = some (.slice (some ⟨gr, 0, none⟩) qs.length (qs.length + 3)) ∧ W'.cell? ⟨bz, 1, none⟩ = some (.slice (some ⟨gs, 0, none⟩) M.length cs)) (first | (refine ⟨?_, ?_, ?_, ?_⟩ <;> with_reducible assumption) | (refine ⟨?_, ?_, ?_, ?_⟩ <;> (rw [put_far2 (by omega), put_far2 (by omega)]; with_reducible assumption)) | (go_keep; done))
              (first | (go_at_call 24; go_loud (
                        refine Calls.mono (HRR3.out _ (by first | exact Below.refl _ _ | exact (Below.refl _ _).drew | exact below_new _ _ | exact (below_new _ _).drew)) ?_
                        rintro e w9 ⟨v', rfl, hn9, hb9⟩
                        obtain ⟨vp', vk', F', rfl, hi9, hk9, hf9⟩ := hn9.is
                        obtain ⟨b1, e1, rfl⟩ := own_form hi9.own
                        obtain ⟨b2, e2, rfl⟩ := own_form hk9.own
                        have HI9 : Hid _ := hi9
                        have HN9 : Hid _ := hk9
                        have HF9 : Hid _ := hf9
                        have HX9 : Hid (Below w12.heap.size w12 w9) := by first | exact hb9 | exact ((Below.refl _ _).drew).trans hb9 | exact (below_new _ _).trans (hb9.mono (by simp)) | exact ((below_new _ _).drew).trans (hb9.mono (by simp))
                        obtain ⟨x0', x1', z0', z1'⟩ := HC12.out w9 HX9.out
                        first
                          | (have hx9 : KBox w9 w12.heap.size (.slice none 0 0) (.slice none 0 0) := (KBox.new w12 (.slice none 0 0) (.slice none 0 0)).here (by first | exact hb9 | exact ((Below.refl _ _).drew).trans hb9)
                             have HA9 : Hid (Below (w12.alloc (.cells #[.slice none 0 0, .slice none 0 0] 26)).heap.size (w12.alloc (.cells #[.slice none 0 0, .slice none 0 0] 26)) w9) := by first | exact hb9 | exact ((Below.refl _ _).drew).trans hb9
                             obtain ⟨p0, p1⟩ := hx9.cells
                             obtain ⟨f0, f1⟩ := hx9.open
                             clear hx9)
                          | skip
                        clear hn9 hb9 hi9 hk9 hf9)))
            all_goals
              go_wp2_with fail
              go_meet
              first | exact ⟨rfl, kvar_c HX9.out HI9.out HN9.out HF9.out⟩ | exact ⟨rfl, kvar_a rfl HA9.out HI9.out HN9.out HF9.out⟩ | exact ⟨rfl, (kvar_c HX9.out HI9.out HN9.out HF9.out).drew⟩ | exact ⟨rfl, (kvar_a rfl HA9.out HI9.out HN9.out HF9.out).drew⟩
          case rest =>
            obtain ⟨rfl, hsv⟩ := hcut
            obtain ⟨gn, sn, tn, mn, on, Fn, rfl, hgn, hbx, hin, hke, hfe, hb⟩ := hsv.is
            obtain ⟨w13, rfl⟩ : ∃ w13, w13 = wc := ⟨_, rfl⟩
            have HBn : Hid (KBox w13 gn (.slice sn d2.ps.length mn) (.slice tn Fn.length on)) := hbx
            have HIn : Hid (NewInts w12.heap.size w13 (.slice sn d2.ps.length mn) d2.ps) := hin
            have HNn : Hid (NewKeys w12.heap.size w13 (.slice tn Fn.length on) Fn) := hke
            have HFn : Hid (keysOf Fn = d2.ks) := hfe
            have Hn : Hid (Below w12.heap.size w12 w13) := hb
            have hsn : w12.heap.size ≤ w13.heap.size := hb.size
            have hln : gn < w13.heap.size := hbx.lt
            clear hsv hbx hin hke hfe hb
            clear x0 x1 z0 z1c HRR3 HC12
            have H1113 : Hid (Below w11.heap.size w11 w13) := Hc.out.trans (Hn.out.mono hsc)
            have HO13 : Hid (OutS bo w13 vl9 vw9 2 _ _) := HO11.out.here H1113.out
            have HW13 : Hid (Below W.heap.size W w13) := HW11.out.trans (H1113.out.mono HW11.out.size)
            have HBc13 : Hid (KBox w13 gc (.slice sc d2.ps.length mc) (.slice tc Fc.length oc)) := HBc.out.here Hn.out
            have HKC13 : Hid (NewKo w11.heap.size w12.heap.size w13 (⟨.slice sc d2.ps.length mc, .slice tc Fc.length oc, d2.ps, Fc⟩ : Ko)) := (NewKo.of (e := (⟨.slice sc d2.ps.length mc, .slice tc Fc.length oc, d2.ps, Fc⟩ : Ko)) HIc.out HNc.out).move fun k _ h2 => Hn.out.block k h2
            have HKN13 : Hid (NewKo w12.heap.size w13.heap.size w13 (⟨.slice sn d2.ps.length mn, .slice tn Fn.length on, d2.ps, Fn⟩ : Ko)) := NewKo.of (e := (⟨.slice sn d2.ps.length mn, .slice tn Fn.length on, d2.ps, Fn⟩ : Ko)) HIn.out HNn.out
            have HEC : Hid (kd d2.ps Fc = kd d2.ps Fn) := by rw [Hid, kd, kd, HFc.out, HFn.out]
            have HFM : Hid (Fc.length ≤ 8589934592) := by
              have h1 := congrArg List.length HFc.out
              have h3 := HSD2.out.m
              rw [keysOf_length] at h1
              rw [Hid]
              omega
            obtain ⟨u0, u1⟩ := HBc13.out.cells
            obtain ⟨v0, v1⟩ := HBn.out.cells
            have HKP : Hid _ := keep_any HO13.out HKC13.out.p HKC13.out.k HKN13.out.p HKN13.out.k HEC.out (by omega) (by have := HSD2.out.n; show d2.ps.length * 8 ≤ _; omega) HSD2.out.f (by have := HFM.out; show Fc.length * 24 ≤ _; omega)
            go_wp2_with fail
            refine Calls.mono HKP.out ?_
            rintro e w14 ⟨rfl, vl14, vw14, ho14, hk14, _⟩
            have HO14 : Hid (OutS bo w14 vl14 vw14 3 (flat [(⟨.slice sa d1.ps.length ma, .slice ta Fa.length oa, d1.ps, Fa⟩ : Ko), (⟨.slice sb d1.ps.length mb, .slice tb Fb.length ob, d1.ps, Fb⟩ : Ko), (⟨.slice sc d2.ps.length mc, .slice tc Fc.length oc, d2.ps, Fc⟩ : Ko)]) (flat [(⟨.slice sw d1.ps.length mw, .slice tw Fw.length ow, d1.ps, Fw⟩ : Ko), (⟨.slice sw d1.ps.length mw, .slice tw Fw.length ow, d1.ps, Fw⟩ : Ko), (⟨.slice sn d2.ps.length mn, .slice tn Fn.length on, d2.ps, Fn⟩ : Ko)])) := ho14
            have hold : ∀ k, vl9.ownBlock = some k ∨ vw9.ownBlock = some k → w7.heap.size ≤ k ∧ k < w9.heap.size := fun k hk => ⟨HV9.out k hk, by
              rcases hk with e | e
              · exact (own_type HO9.out.ol k e).1
              · exact (own_type HO9.out.ow k e).1⟩
            have HT14 : Hid (∀ k, w4.heap.size ≤ k → k < w7.heap.size → w14.heap[k]? = w7.heap[k]?) := fun k h1 h2 => (((hk14.block k (by omega) (by
              rintro (e | e | e)
              · omega
              · have := (hold k (.inl e)).1; omega
              · have := (hold k (.inr e)).1; omega)).trans (H1113.out.block k (by omega))).trans (HT11.out k h1 (by omega))).trans (HT9.out k (by omega) h2)
            have HT15 : Hid (∀ k, w11.heap.size ≤ k → k < w13.heap.size → w14.heap[k]? = w13.heap[k]?) := fun k h1 h2 => hk14.block k h2 (by
              rintro (e | e | e)
              · omega
              · have := (hold k (.inl e)).2; omega
              · have := (hold k (.inr e)).2; omega)
            have HW14 : Hid (Below W.heap.size W w14) := HW13.out.trans (hk14.below HW13.out.size fun k e => by
              have h1 := HWO.out
              have h2 := HW7.out.size
              rcases e with e | e | e
              · omega
              · have := (hold k (.inl e)).1; omega
              · have := (hold k (.inr e)).1; omega)
            clear ho14 hk14 HKP u0 u1 v0 v1 hold
            have HEN : Hid (Calls Try.prog 19 #[.pointer (some ⟨bo, 0, none⟩)] w14 fun e w' => e = .returned (.bool true) ∧ Below (bo + 1) w14 w') := by
              have kA := HKA7.out.move (w' := w14) fun k h1 h2 => HT14.out k h1 (by omega)
              have kB := HKB7.out.move (w' := w14) fun k h1 h2 => HT14.out k (by omega) (by omega)
              have kW := HKW7.out.move (w' := w14) fun k h1 h2 => HT14.out k (by omega) h2
              have kC := HKC13.out.move (w' := w14) fun k h1 h2 => HT15.out k h1 (by omega)
              have kN := HKN13.out.move (w' := w14) fun k h1 h2 => HT15.out k (by omega) h2
              refine ends_of (its := [(⟨.slice sa d1.ps.length ma, .slice ta Fa.length oa, d1.ps, Fa⟩ : Ko), (⟨.slice sb d1.ps.length mb, .slice tb Fb.length ob, d1.ps, Fb⟩ : Ko), (⟨.slice sc d2.ps.length mc, .slice tc Fc.length oc, d2.ps, Fc⟩ : Ko)]) (wants := [(⟨.slice sw d1.ps.length mw, .slice tw Fw.length ow, d1.ps, Fw⟩ : Ko), (⟨.slice sw d1.ps.length mw, .slice tw Fw.length ow, d1.ps, Fw⟩ : Ko), (⟨.slice sn d2.ps.length mn, .slice tn Fn.length on, d2.ps, Fn⟩ : Ko)]) HO14.out rfl (fun j => if j = 0 then w4.heap.size else if j = 1 then w5.heap.size else w11.heap.size) (fun j => if j = 0 then w5.heap.size else if j = 1 then w6.heap.size else w12.heap.size) (fun j e he => ?_) (fun j => ?_) (fun p q hpq hq => ?_) (fun j e e' he he' => ?_) (by simp) (fun e he => ?_) ?_ (fun e he => ?_)
              · match j, he with
                | 0, he => cases he; exact kA
                | 1, he => cases he; exact kB
                | 2, he => cases he; exact kC
                | j + 3, he => cases he
              · split
                · omega
                · split <;> omega
              · have hq3 : q < 3 := hq
                by_cases h1 : p = 0
                · subst h1
                  rw [if_pos rfl, if_neg (by omega)]
                  split <;> omega
                · have h2 : p = 1 := by omega
                  have h3 : q = 2 := by omega
                  subst h2
                  subst h3
                  simp only [Nat.one_ne_zero, if_false, if_true, show (2 : Nat) ≠ 0 by omega, show (2 : Nat) ≠ 1 by omega]
                  omega
              · match j, he, he' with
                | 0, he, he' => cases he; cases he'; exact ⟨⟨_, kW.p, kW.k⟩, HEA.out⟩
                | 1, he, he' => cases he; cases he'; exact ⟨⟨_, kW.p, kW.k⟩, HEB.out⟩
                | 2, he, he' => cases he; cases he'; exact ⟨⟨_, kN.p, kN.k⟩, HEC.out⟩
                | j + 3, he, _ => cases he
              · simp only [List.mem_cons, List.not_mem_nil, or_false] at he
                rcases he with rfl | rfl | rfl
                · exact ⟨HSD1.out.n, HSD1.out.f⟩
                · exact ⟨HSD1.out.n, HSD1.out.f⟩
                · exact ⟨HSD2.out.n, HSD2.out.f⟩
              · have h1 := HFL.out
                have h2 := HFM.out
                simp only [keysAll, List.flatMap_cons, List.flatMap_nil, List.length_append, List.length_nil]
                omega
              · simp only [keysAll, List.flatMap_cons, List.flatMap_nil, List.mem_append, List.not_mem_nil, or_false] at he
                rcases he with he | he | he
                · exact HSD1.out.k e.k (by rw [← HFa.out]; exact List.mem_map.2 ⟨e, he, rfl⟩)
                · exact HSD1.out.k e.k (by rw [← HFb.out]; exact List.mem_map.2 ⟨e, he, rfl⟩)
                · exact HSD2.out.k e.k (by rw [← HFc.out]; exact List.mem_map.2 ⟨e, he, rfl⟩)
            have hnn1 : ((n1 : Int) == (n1 : Int)) = true := by simp
            have hnn2 : ((n2 : Int) == (n2 : Int)) = true := by simp
            go_wp2_with fail
            refine Calls.mono HEN.out ?_
            rintro e w15 ⟨rfl, hb⟩
            have HW15 : Hid (Below W.heap.size W w15) := HW14.out.trans (hb.mono (by have := HWO.out; omega))
            clear hb
            go_wp2
            go_ret
            exact ⟨by simp, HBW.out.trans (HW15.out.mono HBW.out.size)⟩
end Go.Proofs.Ytaehchijeinloaa
