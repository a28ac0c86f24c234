/- The document's Replace. -/
import Derived.Test.YtaehchijeinloaaRefCopies
import Derived.Test.YtaehchijeinloaaRefFit
namespace Go.Proofs.Ytaehchijeinloaa
open Go.RowKit

set_option maxHeartbeats 3200000 in
set_option maxRecDepth 100000 in
theorem refReplace_bad {w : World} {v u : Value} {ps qs : List Int} {L M : List Kc} {i j : Int} (h : KidsAt w.heap.size w v ps L) (hu : KidsAt w.heap.size w u qs M) (hbad : replE (kd ps L) i j (kd qs M) = 1) :
    Calls Try.prog 24 #[v, .int .i64 i, .int .i64 j, u] w fun e w' => ∃ v', e = .returned (.tuple #[v', .int .i64 (replE (kd ps L) i j (kd qs M) : Nat)]) ∧ NewKids w.heap.size w' v' (replD (kd ps L) i j (kd qs M)) ∧ Below w.heap.size w w' := by
  obtain ⟨i0, hi, hz0, hz1, hz2⟩ := infoI'
  obtain ⟨i7, hi7, hz70, hz71, hz72⟩ := infoB'
  obtain ⟨vp, vk, rfl, h1, h2⟩ := h.is
  obtain ⟨a1, c1, rfl⟩ := h1.form
  obtain ⟨a2, c2, rfl⟩ := h2.form
  obtain ⟨up, uk, rfl, h3, h4⟩ := hu.is
  obtain ⟨a3, c3, rfl⟩ := h3.form
  obtain ⟨a4, c4, rfl⟩ := h4.form
  obtain ⟨W, hW⟩ : ∃ W, W = ((w.alloc (.cells #[.slice a1 ps.length c1, .slice a2 L.length c2] 26)).alloc (.cells #[.slice a3 qs.length c3, .slice a4 M.length c4] 26)).alloc (.cells #[.slice none 0 0, .slice none 0 0] 26) := ⟨_, rfl⟩
  have HBW : Hid (Below w.heap.size w W) := by rw [hW]; exact ((below_new w _).alloc (by simp) _).alloc (by simp; omega) _
  have HX : Hid (KBox W w.heap.size (.slice a1 ps.length c1) (.slice a2 L.length c2)) := by
    rw [hW]; exact ((KBox.new w _ _).here (below_new _ _)).here (below_new _ _)
  have HY : Hid (KBox W (w.heap.size + 1) (.slice a3 qs.length c3) (.slice a4 M.length c4)) := by
    rw [hW]
    have := (KBox.new (w.alloc (.cells #[.slice a1 ps.length c1, .slice a2 L.length c2] 26)) (.slice a3 qs.length c3) (.slice a4 M.length c4)).here (below_new _ (.cells #[.slice none 0 0, .slice none 0 0] 26))
    show KBox _ _ _ _
    simpa using this
  have HZ : Hid (KBox W (w.heap.size + 2) (.slice none 0 0) (.slice none 0 0)) := by
    rw [hW]
    have := KBox.new ((w.alloc (.cells #[.slice a1 ps.length c1, .slice a2 L.length c2] 26)).alloc (.cells #[.slice a3 qs.length c3, .slice a4 M.length c4] 26)) (.slice none 0 0) (.slice none 0 0)
    show KBox _ _ _ _
    simpa using this
  have HF1 : Hid (∀ W', Below W.heap.size W W' → Calls Try.prog 45 #[.agg #[.slice a1 ps.length c1, .slice a2 L.length c2]] W' fun r w' => r = .returned (.bool (kd ps L).fit) ∧ Below W'.heap.size W' w') := fun W' hb => refFit_any ((KidsAt.here ⟨_, _, rfl, h1, h2⟩ HBW.out).here hb)
  have HF2 : Hid (∀ W', Below W.heap.size W W' → Calls Try.prog 45 #[.agg #[.slice a3 qs.length c3, .slice a4 M.length c4]] W' fun r w' => r = .returned (.bool (kd qs M).fit) ∧ Below W'.heap.size W' w') := fun W' hb => refFit_any ((KidsAt.here ⟨_, _, rfl, h3, h4⟩ HBW.out).here hb)
  have HP : Hid (IntsAt W.heap.size W (.slice a1 ps.length c1) ps) := h1.here HBW.out
  have HK : Hid (KeysAt W.heap.size W (.slice a2 L.length c2) L) := h2.here HBW.out
  have HQ : Hid (IntsAt W.heap.size W (.slice a3 qs.length c3) qs) := h3.here HBW.out
  have HM : Hid (KeysAt W.heap.size W (.slice a4 M.length c4) M) := h4.here HBW.out
  clear h hu h1 h2 h3 h4
  obtain ⟨k0, k1⟩ := HX.out.cells
  obtain ⟨l0, l1⟩ := HY.out.cells
  have HBAD : Hid (∀ W', replE (kd ps L) i j (kd qs M) = 1 → Below W.heap.size W W' → KBox W' (w.heap.size + 2) (.slice none 0 0) (.slice none 0 0) →
      ∃ v', Ending.returned (.tuple #[.agg #[.slice none 0 0, .slice none 0 0], .int .i64 1]) = .returned (.tuple #[v', .int .i64 (replE (kd ps L) i j (kd qs M) : Nat)]) ∧ NewKids w.heap.size ((W'.setCell ⟨w.heap.size + 2, 0, none⟩ (.slice none 0 0)).setCell ⟨w.heap.size + 2, 1, none⟩ (.slice none 0 0)) v' (replD (kd ps L) i j (kd qs M)) ∧ Below w.heap.size w ((W'.setCell ⟨w.heap.size + 2, 0, none⟩ (.slice none 0 0)).setCell ⟨w.heap.size + 2, 1, none⟩ (.slice none 0 0))) := fun W' he hb hx =>
    ⟨_, by rw [he]; rfl, by unfold replD; rw [he, if_neg (by decide)]; exact NewKids.nil _ _, hx.putNil (HBW.out.trans (hb.mono HBW.out.size)) (by omega)⟩
  cases hf : (kd ps L).fit with
  | false =>
    have HE : Hid (replE (kd ps L) i j (kd qs M) = 1) := by unfold replE; rw [Hid, hf]; simp
    rw [hf] at HF1
    clear hf
    go_enter Try.func24, Try.ntmps24
    go_upto_region 1 with fail
    rw [← hW]
    clear hW
    go_wp2_with fail
    refine (HF1.out _ (Below.refl _ _)).mono ?_
    rintro e w1 ⟨rfl, hb1⟩
    have HB1 : Hid (Below W.heap.size W w1) := hb1
    obtain ⟨m0, m1⟩ := (HX.out.here hb1).cells
    obtain ⟨n0, n1⟩ := (HY.out.here hb1).cells
    clear hb1 k0 k1 l0 l1
    have HZ1 : Hid (KBox w1 (w.heap.size + 2) (.slice none 0 0) (.slice none 0 0)) := HZ.out.here HB1.out
    obtain ⟨z0, z1⟩ := HZ1.out.cells
    obtain ⟨f0, f1⟩ := HZ1.out.open
    go_wp2
    exact bodyPost_ret (ret_kids2 (u := .int .i64 1) rfl rfl rfl (HZ1.out.put _ _)) rfl (HBAD.out w1 HE.out HB1.out HZ1.out)
  | true =>
    have hfl := fit_iff.1 hf
    have hlL : L.length + 1 = ps.length := by
      have : (kd ps L).ks.length = L.length := keysOf_length L
      have h2 := hfl.2
      rw [this] at h2
      exact h2
    rw [hf] at HF1
    cases hg : (kd qs M).fit with
    | false =>
      have HE : Hid (replE (kd ps L) i j (kd qs M) = 1) := by unfold replE; rw [Hid, hg]; simp
      rw [hg] at HF2
      clear hf hg hfl
      go_enter Try.func24, Try.ntmps24
      go_upto_region 1 with fail
      rw [← hW]
      clear hW
      go_wp2_with fail
      refine (HF1.out _ (Below.refl _ _)).mono ?_
      rintro e w1 ⟨rfl, hb1⟩
      have HB1 : Hid (Below W.heap.size W w1) := hb1
      obtain ⟨m0, m1⟩ := (HX.out.here hb1).cells
      obtain ⟨n0, n1⟩ := (HY.out.here hb1).cells
      clear hb1 k0 k1 l0 l1
      go_wp2_with fail
      refine (HF2.out _ HB1.out).mono ?_
      rintro e w2 ⟨rfl, hb2⟩
      have HB2 : Hid (Below W.heap.size W w2) := HB1.out.trans (hb2.mono HB1.out.size)
      obtain ⟨p0, p1⟩ := (HX.out.here HB2.out).cells
      obtain ⟨q0, q1⟩ := (HY.out.here HB2.out).cells
      clear hb2 m0 m1 n0 n1
      have HZ2 : Hid (KBox w2 (w.heap.size + 2) (.slice none 0 0) (.slice none 0 0)) := HZ.out.here HB2.out
      obtain ⟨z0, z1⟩ := HZ2.out.cells
      obtain ⟨f0, f1⟩ := HZ2.out.open
      go_wp2
      exact bodyPost_ret (ret_kids2 (u := .int .i64 1) rfl rfl rfl (HZ2.out.put _ _)) rfl (HBAD.out w2 HE.out HB2.out HZ2.out)
    | true =>
      have hgl := fit_iff.1 hg
      have hlM : M.length + 1 = qs.length := by
        have : (kd qs M).ks.length = M.length := keysOf_length M
        have h2 := hgl.2
        rw [this] at h2
        exact h2
      rw [hg] at HF2
      by_cases hi0 : i < 0
      · have HE : Hid (replE (kd ps L) i j (kd qs M) = 1) := by unfold replE; rw [Hid, if_neg (by show ¬ (_ ∧ _ ∧ 0 ≤ i ∧ i < j ∧ j ≤ (ps.length : Nat)); omega)]
        clear hf hg hfl hgl
        go_enter Try.func24, Try.ntmps24
        go_upto_region 1 with fail
        rw [← hW]
        clear hW
        go_wp2_with fail
        refine (HF1.out _ (Below.refl _ _)).mono ?_
        rintro e w1 ⟨rfl, hb1⟩
        have HB1 : Hid (Below W.heap.size W w1) := hb1
        obtain ⟨m0, m1⟩ := (HX.out.here hb1).cells
        obtain ⟨n0, n1⟩ := (HY.out.here hb1).cells
        clear hb1 k0 k1 l0 l1
        go_wp2_with fail
        refine (HF2.out _ HB1.out).mono ?_
        rintro e w2 ⟨rfl, hb2⟩
        have HB2 : Hid (Below W.heap.size W w2) := HB1.out.trans (hb2.mono HB1.out.size)
        obtain ⟨p0, p1⟩ := (HX.out.here HB2.out).cells
        obtain ⟨q0, q1⟩ := (HY.out.here HB2.out).cells
        clear hb2 m0 m1 n0 n1
        have HZ2 : Hid (KBox w2 (w.heap.size + 2) (.slice none 0 0) (.slice none 0 0)) := HZ.out.here HB2.out
        obtain ⟨z0, z1⟩ := HZ2.out.cells
        obtain ⟨f0, f1⟩ := HZ2.out.open
        go_wp2
        exact bodyPost_ret (ret_kids2 (u := .int .i64 1) rfl rfl rfl (HZ2.out.put _ _)) rfl (HBAD.out w2 HE.out HB2.out HZ2.out)
      · skip
        by_cases hij : j ≤ i
        · have HE : Hid (replE (kd ps L) i j (kd qs M) = 1) := by unfold replE; rw [Hid, if_neg (by show ¬ (_ ∧ _ ∧ 0 ≤ i ∧ i < j ∧ j ≤ (ps.length : Nat)); omega)]
          clear hf hg hfl hgl
          go_enter Try.func24, Try.ntmps24
          go_upto_region 1 with fail
          rw [← hW]
          clear hW
          go_wp2_with fail
          refine (HF1.out _ (Below.refl _ _)).mono ?_
          rintro e w1 ⟨rfl, hb1⟩
          have HB1 : Hid (Below W.heap.size W w1) := hb1
          obtain ⟨m0, m1⟩ := (HX.out.here hb1).cells
          obtain ⟨n0, n1⟩ := (HY.out.here hb1).cells
          clear hb1 k0 k1 l0 l1
          go_wp2_with fail
          refine (HF2.out _ HB1.out).mono ?_
          rintro e w2 ⟨rfl, hb2⟩
          have HB2 : Hid (Below W.heap.size W w2) := HB1.out.trans (hb2.mono HB1.out.size)
          obtain ⟨p0, p1⟩ := (HX.out.here HB2.out).cells
          obtain ⟨q0, q1⟩ := (HY.out.here HB2.out).cells
          clear hb2 m0 m1 n0 n1
          have HZ2 : Hid (KBox w2 (w.heap.size + 2) (.slice none 0 0) (.slice none 0 0)) := HZ.out.here HB2.out
          obtain ⟨z0, z1⟩ := HZ2.out.cells
          obtain ⟨f0, f1⟩ := HZ2.out.open
          go_wp2
          exact bodyPost_ret (ret_kids2 (u := .int .i64 1) rfl rfl rfl (HZ2.out.put _ _)) rfl (HBAD.out w2 HE.out HB2.out HZ2.out)
        · skip
          by_cases hjp : (ps.length : Int) < j
          · have HE : Hid (replE (kd ps L) i j (kd qs M) = 1) := by unfold replE; rw [Hid, if_neg (by show ¬ (_ ∧ _ ∧ 0 ≤ i ∧ i < j ∧ j ≤ (ps.length : Nat)); omega)]
            clear hf hg hfl hgl
            go_enter Try.func24, Try.ntmps24
            go_upto_region 1 with fail
            rw [← hW]
            clear hW
            go_wp2_with fail
            refine (HF1.out _ (Below.refl _ _)).mono ?_
            rintro e w1 ⟨rfl, hb1⟩
            have HB1 : Hid (Below W.heap.size W w1) := hb1
            obtain ⟨m0, m1⟩ := (HX.out.here hb1).cells
            obtain ⟨n0, n1⟩ := (HY.out.here hb1).cells
            clear hb1 k0 k1 l0 l1
            go_wp2_with fail
            refine (HF2.out _ HB1.out).mono ?_
            rintro e w2 ⟨rfl, hb2⟩
            have HB2 : Hid (Below W.heap.size W w2) := HB1.out.trans (hb2.mono HB1.out.size)
            obtain ⟨p0, p1⟩ := (HX.out.here HB2.out).cells
            obtain ⟨q0, q1⟩ := (HY.out.here HB2.out).cells
            clear hb2 m0 m1 n0 n1
            have HZ2 : Hid (KBox w2 (w.heap.size + 2) (.slice none 0 0) (.slice none 0 0)) := HZ.out.here HB2.out
            obtain ⟨z0, z1⟩ := HZ2.out.cells
            obtain ⟨f0, f1⟩ := HZ2.out.open
            go_wp2
            exact bodyPost_ret (ret_kids2 (u := .int .i64 1) rfl rfl rfl (HZ2.out.put _ _)) rfl (HBAD.out w2 HE.out HB2.out HZ2.out)
          · skip
            have h0 : replE (kd ps L) i j (kd qs M) = 0 := by unfold replE; rw [if_pos ⟨hf, hg, by omega, by omega, by show j ≤ (ps.length : Nat); omega⟩]
            omega
end Go.Proofs.Ytaehchijeinloaa
