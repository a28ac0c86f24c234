/- The document's Replace, where it is no fault. -/
import Derived.Test.YtaehchijeinloaaRefReplB
namespace Go.Proofs.Ytaehchijeinloaa
open Go.RowKit

/-- What Replace puts together. -/
structure RepS (W : World) (b : Nat) (wx : World) (vp vk : Value) (ps : List Int) (F : List Kc) : Prop where
  box : KBox wx b vp vk
  ints : NewInts W.heap.size wx vp ps
  keys : NewKeys W.heap.size wx vk F
  low : Below W.heap.size W wx
theorem RepS.here {W wx w' : World} {b : Nat} {vp vk : Value} {ps : List Int} {F : List Kc} (h : RepS W b wx vp vk ps F) (hb : Below wx.heap.size wx w') : RepS W b w' vp vk ps F :=
  ⟨h.box.here hb, h.ints.here hb, h.keys.here hb, h.low.trans (hb.mono h.low.size)⟩
theorem RepS.put0 {W wx w5 : World} {b : Nat} {vp vk v5 : Value} {ps qs : List Int} {F : List Kc} (h : RepS W b wx vp vk ps F) (hb : W.heap.size ≤ b) (hk : Keep 3 W.heap.size wx w5) (hn : NewInts W.heap.size w5 v5 qs) : RepS W b (w5.setCell ⟨b, 0, none⟩ v5) v5 vk qs F := by
  have hx := h.box.keep hk (by decide)
  have hs : Keep 26 W.heap.size w5 (w5.setCell ⟨b, 0, none⟩ v5) := keep_set hx.row hb _
  exact ⟨hx.set0 _, hn.keep hs (by decide), (h.keys.keep hk (by decide) (by decide)).keep hs (by decide) (by decide), h.low.trans (hk.low.trans hs.low)⟩
theorem RepS.put1 {W wx w5 : World} {b : Nat} {vp vk v5 : Value} {ps : List Int} {F G : List Kc} (h : RepS W b wx vp vk ps F) (hb : W.heap.size ≤ b) (hk : Keep 27 W.heap.size wx w5) (hn : NewKeys W.heap.size w5 v5 G) : RepS W b (w5.setCell ⟨b, 1, none⟩ v5) vp v5 ps G := by
  have hx := h.box.keep hk (by decide)
  have hs : Keep 26 W.heap.size w5 (w5.setCell ⟨b, 1, none⟩ v5) := keep_set hx.row hb _
  exact ⟨hx.set1 _, (h.ints.keep hk (by decide)).keep hs (by decide), hn.keep hs (by decide) (by decide), h.low.trans (hk.low.trans hs.low)⟩

theorem NewKeys.both {B : Nat} {w1 w2 w3 : World} {v v2 v3 : Value} {F G : List Kc} (h : NewKeys B w1 v F) (hb : Below w1.heap.size w1 w2) (hB : B ≤ w1.heap.size) (h2 : NewKeys w1.heap.size w2 v2 G) (hk : Keep 27 B w2 w3) (ho : w3.ownsRow B 27 1 v3 (F.map Kc.v ++ G.map Kc.v).length (F.map Kc.v ++ G.map Kc.v)) : NewKeys B w3 v3 (F ++ G) := by
  refine ⟨?_, fun e he => ?_, ?_⟩
  · have h := ho
    rw [← List.map_append, List.length_map] at h
    exact h
  · rcases List.mem_append.1 he with h' | h'
    · exact ((h.keys e h').here hb).keep hk (by decide)
    · exact ((h2.keys e h').mono hB).keep hk (by decide)
  · rw [blocks_append, List.nodup_append]
    refine ⟨h.apart, h2.apart, fun a ha b hb' e => ?_⟩
    obtain ⟨y, hy, hyb⟩ := mem_blocks ha
    obtain ⟨y2, hy2, hyb2⟩ := mem_blocks hb'
    have h3 := (own_type (h.keys y hy).1 a hyb).1
    have h4 := (own_type (h2.keys y2 hy2).1 b hyb2).2.1
    omega
theorem NewKeys.form {B : Nat} {w : World} {v : Value} {F : List Kc} (h : NewKeys B w v F) : ∃ a c, v = .slice a F.length c := by
  obtain ⟨a, c, e⟩ := (own_cells h.own (by simp)).form
  rw [List.length_map] at e
  exact ⟨a, c, e⟩
theorem NewKeys.form2 {B : Nat} {w : World} {v : Value} {F : List Kc} (h : NewKeys B w v F) : ∃ a n c, v = .slice a n c ∧ F.length = n := by
  obtain ⟨a, c, e⟩ := h.form
  exact ⟨a, _, c, e, rfl⟩
theorem keysOf_app (F G : List Kc) : keysOf (F ++ G) = keysOf F ++ keysOf G := by simp [keysOf]
theorem refCopied {w : World} {v : Value} {L : List Kc} (h : KeysAt w.heap.size w v L) (hl : L.length ≤ 4294967296) : Calls Try.prog 48 #[v] w fun r w' => ∃ u, r = .returned u ∧ ∃ F, NewKeys w.heap.size w' u F ∧ keysOf F = keysOf L ∧ Below w.heap.size w w' := refCopies_any h hl

set_option maxHeartbeats 25600000 in
set_option maxRecDepth 100000 in
theorem refReplace_good {w : World} {v u : Value} {ps qs : List Int} {L M : List Kc} {ni nj : Nat} (h : KidsAt w.heap.size w v ps L) (hu : KidsAt w.heap.size w u qs M) (hl : ps.length ≤ 2147483647) (hm : qs.length ≤ 2147483647) (hf : (kd ps L).fit = true) (hg : (kd qs M).fit = true) (hij : ni < nj) (hjp : nj ≤ ps.length) :
    Calls Try.prog 24 #[v, .int .i64 ni, .int .i64 nj, u] w fun e w' => ∃ v', e = .returned (.tuple #[v', .int .i64 0]) ∧ NewKids w.heap.size w' v' (replK (kd ps L) ni nj (kd qs M)) ∧ Below w.heap.size w w' := by
  obtain ⟨i0, hi, hz0, hz1, hz2⟩ := infoI'
  obtain ⟨i7, hi7, hz70, hz71, hz72⟩ := infoB'
  obtain ⟨vp, vk, rfl, h1, h2⟩ := h.is
  obtain ⟨a1, c1, rfl⟩ := h1.form
  obtain ⟨a2, c2, rfl⟩ := h2.form
  obtain ⟨up, uk, rfl, h3, h4⟩ := hu.is
  obtain ⟨a3, c3, rfl⟩ := h3.form
  obtain ⟨a4, c4, rfl⟩ := h4.form
  obtain ⟨W, hW⟩ : ∃ W, W = ((w.alloc (.cells #[.slice a1 ps.length c1, .slice a2 L.length c2] 26)).alloc (.cells #[.slice a3 qs.length c3, .slice a4 M.length c4] 26)).alloc (.cells #[.slice none 0 0, .slice none 0 0] 26) := ⟨_, rfl⟩
  have HBW : Hid (Below w.heap.size w W) := by rw [hW]; exact ((below_new w _).alloc (by simp) _).alloc (by simp; omega) _
  have HX : Hid (KBox W w.heap.size (.slice a1 ps.length c1) (.slice a2 L.length c2)) := by
    rw [hW]; exact ((KBox.new w _ _).here (below_new _ _)).here (below_new _ _)
  have HY : Hid (KBox W (w.heap.size + 1) (.slice a3 qs.length c3) (.slice a4 M.length c4)) := by
    rw [hW]
    have := (KBox.new (w.alloc (.cells #[.slice a1 ps.length c1, .slice a2 L.length c2] 26)) (.slice a3 qs.length c3) (.slice a4 M.length c4)).here (below_new _ (.cells #[.slice none 0 0, .slice none 0 0] 26))
    show KBox _ _ _ _
    simpa using this
  have HZ : Hid (KBox W (w.heap.size + 2) (.slice none 0 0) (.slice none 0 0)) := by
    rw [hW]
    have := KBox.new ((w.alloc (.cells #[.slice a1 ps.length c1, .slice a2 L.length c2] 26)).alloc (.cells #[.slice a3 qs.length c3, .slice a4 M.length c4] 26)) (.slice none 0 0) (.slice none 0 0)
    show KBox _ _ _ _
    simpa using this
  have HF1 : Hid (∀ W', Below W.heap.size W W' → Calls Try.prog 45 #[.agg #[.slice a1 ps.length c1, .slice a2 L.length c2]] W' fun r w' => r = .returned (.bool true) ∧ Below W'.heap.size W' w') := fun W' hb => by
    have := refFit_any ((KidsAt.here (v := .agg #[.slice a1 ps.length c1, .slice a2 L.length c2]) ⟨_, _, rfl, h1, h2⟩ HBW.out).here hb)
    rw [hf] at this; exact this
  have HF2 : Hid (∀ W', Below W.heap.size W W' → Calls Try.prog 45 #[.agg #[.slice a3 qs.length c3, .slice a4 M.length c4]] W' fun r w' => r = .returned (.bool true) ∧ Below W'.heap.size W' w') := fun W' hb => by
    have := refFit_any ((KidsAt.here (v := .agg #[.slice a3 qs.length c3, .slice a4 M.length c4]) ⟨_, _, rfl, h3, h4⟩ HBW.out).here hb)
    rw [hg] at this; exact this
  have HP : Hid (IntsAt W.heap.size W (.slice a1 ps.length c1) ps) := h1.here HBW.out
  have HK : Hid (KeysAt W.heap.size W (.slice a2 L.length c2) L) := h2.here HBW.out
  have HQ : Hid (IntsAt W.heap.size W (.slice a3 qs.length c3) qs) := h3.here HBW.out
  have HM : Hid (KeysAt W.heap.size W (.slice a4 M.length c4) M) := h4.here HBW.out
  have hlL : L.length + 1 = ps.length := by
    have h2 := (fit_iff.1 hf).2
    rw [show (kd ps L).ks.length = L.length from keysOf_length L] at h2
    exact h2
  have hlM : M.length + 1 = qs.length := by
    have h2 := (fit_iff.1 hg).2
    rw [show (kd qs M).ks.length = M.length from keysOf_length M] at h2
    exact h2
  have HCL : Hid (∀ W', Below W.heap.size W W' → (W'.cell? ⟨w.heap.size, 0, none⟩ = some (.slice a1 ps.length c1) ∧ W'.cell? ⟨w.heap.size, 1, none⟩ = some (.slice a2 L.length c2)) ∧ W'.cell? ⟨w.heap.size + 1, 0, none⟩ = some (.slice a3 qs.length c3) ∧ W'.cell? ⟨w.heap.size + 1, 1, none⟩ = some (.slice a4 M.length c4)) := fun W' hb =>
    ⟨(HX.out.here hb).cells, (HY.out.here hb).cells⟩
  clear h hu h1 h2 h3 h4 hf hg HX HY
  obtain ⟨⟨k0, k1⟩, l0, l1⟩ := HCL.out W (Below.refl _ _)
  go_enter Try.func24, Try.ntmps24
  go_upto_region 1 with fail
  rw [← hW]
  clear hW
  go_wp2_with fail
  refine (HF1.out _ (Below.refl _ _)).mono ?_
  rintro e w1 ⟨rfl, hb1⟩
  have HB1 : Hid (Below W.heap.size W w1) := hb1
  clear hb1 k0 k1 l0 l1
  obtain ⟨⟨k0, k1⟩, l0, l1⟩ := HCL.out w1 HB1.out
  go_wp2_with fail
  refine (HF2.out _ HB1.out).mono ?_
  rintro e w2 ⟨rfl, hb2⟩
  have HB2 : Hid (Below W.heap.size W w2) := HB1.out.trans (hb2.mono HB1.out.size)
  clear hb2 k0 k1 l0 l1
  obtain ⟨⟨k0, k1⟩, l0, l1⟩ := HCL.out w2 HB2.out
  have g1 : ¬ ((ni : Int) < 0) := by omega
  have g2 : ¬ ((nj : Int) ≤ (ni : Int)) := by omega
  have g3 : ¬ ((ps.length : Int) < (nj : Int)) := by omega
  go_upto_region 4 with fail
  clear HF1 HF2 HB1 k0 k1 l0 l1
  obtain ⟨g1, o1, e1⟩ : ∃ g off, a1 = some ⟨g, off, none⟩ := by
    obtain ⟨x, hx⟩ : ∃ x, ps[0]? = some x := ⟨ps[0]'(by omega), List.getElem?_eq_getElem _⟩
    obtain ⟨g, off, c, e, _⟩ := HP.out.cell 0 x hx
    cases e
    exact ⟨g, off, rfl⟩
  subst e1
  obtain ⟨g3, o3, e3⟩ : ∃ g off, a3 = some ⟨g, off, none⟩ := by
    obtain ⟨x, hx⟩ : ∃ x, qs[0]? = some x := ⟨qs[0]'(by omega), List.getElem?_eq_getElem _⟩
    obtain ⟨g, off, c, e, _⟩ := HQ.out.cell 0 x hx
    cases e
    exact ⟨g, off, rfl⟩
  subst e3
  have hc1 : ps.length ≤ c1 := by
    obtain ⟨a, c, e, h, _⟩ := HP.out.row.is
    simp only [List.length_map] at e h
    cases e; exact h
  obtain ⟨W3, hW3⟩ : ∃ W3, W3 = w2.alloc (.cells #[.slice none 0 0, .slice none 0 0] 26) := ⟨_, rfl⟩
  rw [← hW3]
  obtain ⟨b, hb⟩ : ∃ b, b = w2.heap.size := ⟨_, rfl⟩
  rw [← hb]
  have HS3 : Hid (RepS W b W3 (.slice none 0 0) (.slice none 0 0) [] []) := by
    rw [hW3, hb]
    exact ⟨KBox.new w2 _ _, NewInts.nil _ _, NewKeys.nil _ _, HB2.out.trans ((below_new w2 _).mono HB2.out.size)⟩
  have HBB : Hid (W.heap.size ≤ b) := by rw [hb]; exact HB2.out.size
  have HHB : Hid (w.heap.size + 2 < W.heap.size) := HZ.out.lt
  clear hW3 hb HB2
  have HPT : Hid (∀ W', Below W.heap.size W W' → CellsAt W'.heap.size W' (.slice (some ⟨g1, o1, none⟩) ni c1) ((ps.take ni).map encI)) := fun W' hb =>
    ((HP.out.take ni (by omega) c1 (by omega) (Nat.le_refl _)).here hb).row
  obtain ⟨⟨k0, k1⟩, l0, l1⟩ := HCL.out W3 HS3.out.low
  obtain ⟨z0, z1⟩ := HS3.out.box.cells
  have hn1 : (ni : Int) ≤ (c1 : Int) := by omega
  have HLT : Hid (((ps.take ni).map encI).length = ni) := by rw [Hid, List.length_map, List.length_take]; omega
  go_cut [] (fun wx => ∃ a c, RepS W b wx (.slice a ni c) (.slice none 0 0) (ps.take ni) [])
  case first =>
    go_region_law
      (first
        | (refine step_append_rows (by rfl) _ _ 23 (by rfl) 3 i0 (.int .i64 0) 8 Try.underlying23 hi hz0 hz1 hz2 rfl W.heap.size (.slice none 0 0) (.slice (some ⟨g1, o1, none⟩) ni c1) [] ((ps.take ni).map encI) (by rfl) (⟨.inl (World.ownsRow_nil _ _ _ _)⟩) (by rfl) (by exact HPT.out _ HS3.out.low.drew) (oneI _) (by rw [HLT.out]; unfold maxLen; simp; omega) (by rw [HLT.out]; simp; omega) (by exact HS3.out.low.size) ?_
           intro v5 w5 _ hk5 ho5
           have ho5' := ho5 (.inr (World.ownsRow_nil _ _ _ _))
           have HN5 : Hid (NewInts W.heap.size w5 v5 (ps.take ni)) := ⟨by have := ho5'; rw [List.nil_append, List.length_map] at this; exact this⟩
           obtain ⟨a5, c5, e5⟩ : ∃ a c, v5 = .slice a ni c := ints_form HN5.out (by rw [List.length_take]; omega)
           subst e5
           have HK5 : Hid (Keep 3 W.heap.size W3.drew w5) := hk5
           obtain ⟨y0, _⟩ := ((HS3.out.here (Below.refl _ _).drew).box.keep hk5 (by decide)).cells
           obtain ⟨f0, _⟩ := ((HS3.out.here (Below.refl _ _).drew).box.keep hk5 (by decide)).open
           clear hk5 ho5 ho5'))
    all_goals
      go_wp2_with fail
      go_meet
      exact ⟨_, _, (HS3.out.here (Below.refl _ _).drew).put0 HBB.out HK5.out HN5.out⟩
  case rest =>
    obtain ⟨a5, c5, hs5⟩ := hcut
    obtain ⟨W5, rfl⟩ : ∃ W5, W5 = wc := ⟨_, rfl⟩
    have HS5 : Hid (RepS W b W5 (.slice a5 ni c5) (.slice none 0 0) (ps.take ni) []) := hs5
    clear hs5 k0 k1 l0 l1 z0 z1 HLT HPT HS3
    obtain ⟨⟨k0, k1⟩, l0, l1⟩ := HCL.out W5 HS5.out.low
    obtain ⟨z0, z1⟩ := HS5.out.box.cells
    have HQS : Hid (∀ (j : Nat) (u : Value), (qs.map encI)[j]? = some u → W5.cell? ((⟨g3, o3, none⟩ : Addr).add j) = some u) := fun j u hj => by
      rw [List.getElem?_map] at hj
      obtain ⟨x, hx, rfl⟩ := Option.map_eq_some_iff.1 hj
      obtain ⟨g', off', c', e1, hc⟩ := (HQ.out.here HS5.out.low).cell j x hx
      cases e1
      rw [add_at]; exact hc
    have HO5 : Hid (W5.ownsRow W.heap.size 3 1 (.slice a5 ni c5) ni ((ps.take ni).map encI)) := by
      have h := HS5.out.ints.own
      rw [List.length_take, Nat.min_eq_left (by omega)] at h; exact h
    have hbs5 := HS5.out.low.size
    go_upto_region 5 with fail
    go_cut [] (fun wx => ∃ a c, RepS W b wx (.slice a (ni + qs.length) c) (.slice none 0 0) (ps.take ni ++ qs) [])
    case first =>
      go_wp2_with (at_builtin; go_loud (
        refine wpList_append_lies _ rfl _ _ 23 rfl W.heap.size 3 i0 (.int .i64 0) 1 8 Try.underlying23 hi hz0 hz1 hz2 rfl (by decide) (.slice a5 ni c5) ni ((ps.take ni).map encI) rfl HO5.out ⟨g3, o3, none⟩ qs.length c3 (qs.map encI) rfl (by rw [List.length_map, Nat.mul_one]) HQS.out (by intro u hu; obtain ⟨x, _, rfl⟩ := List.mem_map.1 hu; rfl) (by omega) (by unfold maxLen; omega) (by omega) hbs5 _ rfl ?_
        intro g6 c6 w6 ho6 hg6 _ _
        have HK6 : Hid (Keep 3 W.heap.size W5 w6) := Keep.grown HO5.out hg6 hbs5
        have HN6 : Hid (NewInts W.heap.size w6 (.slice (some ⟨g6, 0, none⟩) (ni + qs.length) c6) (ps.take ni ++ qs)) := ⟨by have h := ho6; rw [← List.map_append] at h; rw [List.length_append, List.length_take, Nat.min_eq_left (by omega)]; exact h⟩
        obtain ⟨y0, _⟩ := (HS5.out.box.keep HK6.out (by decide)).cells
        obtain ⟨f0, _⟩ := (HS5.out.box.keep HK6.out (by decide)).open
        clear ho6 hg6))
      go_meet
      exact ⟨_, _, HS5.out.put0 HBB.out HK6.out HN6.out⟩
    case rest =>
      obtain ⟨a6, c6, hs6⟩ := hcut
      obtain ⟨W6, rfl⟩ : ∃ W6, W6 = wc := ⟨_, rfl⟩
      have HS6 : Hid (RepS W b W6 (.slice a6 (ni + qs.length) c6) (.slice none 0 0) (ps.take ni ++ qs) []) := hs6
      clear hs6 k0 k1 l0 l1 z0 z1 HQS HO5 hbs5 HS5 hn1
      obtain ⟨⟨k0, k1⟩, l0, l1⟩ := HCL.out W6 HS6.out.low
      obtain ⟨z0, z1⟩ := HS6.out.box.cells
      have hjc : (nj : Int) ≤ (ps.length : Int) := by omega
      have HPD : Hid (CellsAt W6.drew.heap.size W6.drew (.slice (if c1 = nj then some ⟨g1, o1, none⟩ else some ⟨g1, o1 + nj, none⟩) (ps.length - nj) (c1 - nj)) ((ps.drop nj).map encI)) := by
        rw [List.map_drop]
        refine ((HP.out.here HS6.out.low.drew).row).part nj (by omega) _ ?_
        by_cases hcn : c1 = nj
        · rw [if_pos hcn]
          exact .inr (.inl ⟨by omega, _, _, by rw [show ps.length - nj = 0 by omega]⟩)
        · rw [if_neg hcn]
          exact .inl ⟨g1, o1, rfl, rfl⟩
      have HOP : Hid (W6.drew.ownsRow W.heap.size 3 1 (.slice a6 (ni + qs.length) c6) ((ps.take ni ++ qs).map encI).length ((ps.take ni ++ qs).map encI)) := by
        have := (HS6.out.ints.here (Below.refl _ _).drew).own
        rw [List.length_map]; exact this
      have HL5 : Hid (((ps.take ni ++ qs).map encI).length = ni + qs.length) := by rw [Hid, List.length_map, List.length_append, List.length_take]; omega
      have HLD : Hid (((ps.drop nj).map encI).length = ps.length - nj) := by rw [Hid, List.length_map, List.length_drop]
      go_upto_region 6 with fail
      go_cut [] (fun wx => ∃ a c, RepS W b wx (.slice a (ni + qs.length + (ps.length - nj)) c) (.slice none 0 0) (ps.take ni ++ qs ++ ps.drop nj) [])
      case first =>
        by_cases hcn : c1 = nj
        · subst hcn
          have h0 : ps.length - c1 = 0 := by omega
          rw [if_pos rfl, Nat.sub_self, h0] at HPD
          go_region_law
            (first
              | (refine step_append_rows (by rfl) _ _ 23 (by rfl) 3 i0 (.int .i64 0) 8 Try.underlying23 hi hz0 hz1 hz2 rfl W.heap.size (.slice a6 (ni + qs.length) c6) _ ((ps.take ni ++ qs).map encI) ((ps.drop c1).map encI) (by rfl) (by exact ⟨.inl HOP.out⟩) (by rfl) (by exact HPD.out) (oneI _) (by rw [HL5.out, HLD.out]; unfold maxLen; omega) (by rw [HL5.out, HLD.out]; omega) (by exact HS6.out.low.size) ?_
                 intro v7 w7 _ hk7 ho7
                 have ho7' := ho7 (.inr HOP.out)
                 have HN7 : Hid (NewInts W.heap.size w7 v7 (ps.take ni ++ qs ++ ps.drop c1)) := ⟨by have := ho7'; rw [← List.map_append, List.length_map] at this; exact this⟩
                 obtain ⟨a7, c7, e7⟩ : ∃ a c, v7 = .slice a (ni + qs.length) c := ints_form HN7.out (by rw [List.length_append, List.length_append, List.length_take, List.length_drop]; omega)
                 subst e7
                 have HK7 : Hid (Keep 3 W.heap.size W6.drew w7) := hk7
                 obtain ⟨y0, _⟩ := ((HS6.out.here (Below.refl _ _).drew).box.keep hk7 (by decide)).cells
                 obtain ⟨f0, _⟩ := ((HS6.out.here (Below.refl _ _).drew).box.keep hk7 (by decide)).open
                 clear hk7 ho7 ho7'))
          all_goals
            go_wp2_with fail
            go_meet
            rw [h0, Nat.add_zero]
            exact ⟨_, _, (HS6.out.here (Below.refl _ _).drew).put0 HBB.out HK7.out HN7.out⟩
        · rw [if_neg hcn] at HPD
          go_region_law
            (first
              | (refine step_append_rows (by rfl) _ _ 23 (by rfl) 3 i0 (.int .i64 0) 8 Try.underlying23 hi hz0 hz1 hz2 rfl W.heap.size (.slice a6 (ni + qs.length) c6) _ ((ps.take ni ++ qs).map encI) ((ps.drop nj).map encI) (by rfl) (by exact ⟨.inl HOP.out⟩) (by rfl) (by exact HPD.out) (oneI _) (by rw [HL5.out, HLD.out]; unfold maxLen; omega) (by rw [HL5.out, HLD.out]; omega) (by exact HS6.out.low.size) ?_
                 intro v7 w7 _ hk7 ho7
                 have ho7' := ho7 (.inr HOP.out)
                 have HN7 : Hid (NewInts W.heap.size w7 v7 (ps.take ni ++ qs ++ ps.drop nj)) := ⟨by have := ho7'; rw [← List.map_append, List.length_map] at this; exact this⟩
                 obtain ⟨a7, c7, e7⟩ : ∃ a c, v7 = .slice a (ni + qs.length + (ps.length - nj)) c := ints_form HN7.out (by rw [List.length_append, List.length_append, List.length_take, List.length_drop]; omega)
                 subst e7
                 have HK7 : Hid (Keep 3 W.heap.size W6.drew w7) := hk7
                 obtain ⟨y0, _⟩ := ((HS6.out.here (Below.refl _ _).drew).box.keep hk7 (by decide)).cells
                 obtain ⟨f0, _⟩ := ((HS6.out.here (Below.refl _ _).drew).box.keep hk7 (by decide)).open
                 clear hk7 ho7 ho7'))
          all_goals
            go_wp2_with fail
            go_meet
            exact ⟨_, _, (HS6.out.here (Below.refl _ _).drew).put0 HBB.out HK7.out HN7.out⟩
      case rest =>
        obtain ⟨a7, c7, hs7⟩ := hcut
        obtain ⟨W7, rfl⟩ : ∃ W7, W7 = wc := ⟨_, rfl⟩
        obtain ⟨n7, hn7⟩ : ∃ n, n = ni + qs.length + (ps.length - nj) := ⟨_, rfl⟩
        rw [← hn7] at hs7
        have HS7 : Hid (RepS W b W7 (.slice a7 n7 c7) (.slice none 0 0) (ps.take ni ++ qs ++ ps.drop nj) []) := hs7
        clear hs7 hn7 k0 k1 l0 l1 z0 z1 HPD HOP HL5 HLD HS6 hjc HP HQ
        obtain ⟨hc2, hn2⟩ : L.length ≤ c2 ∧ (a2 = none → c2 = 0) := by
          obtain ⟨a, c, e, h, h', _⟩ := HK.out.row.is
          simp only [List.length_map] at e h
          cases e; exact ⟨h, h'⟩
        obtain ⟨⟨k0, k1⟩, l0, l1⟩ := HCL.out W7 HS7.out.low
        obtain ⟨z0, z1⟩ := HS7.out.box.cells
        have HKT : Hid (KeysAt W7.heap.size W7 (.slice a2 ni c2) (L.take ni)) := ((HK.out.here HS7.out.low).take ni (by omega) c2 (by omega) (Nat.le_refl _))
        have hs7 := HS7.out.low.size
        have hnk : (ni : Int) ≤ (c2 : Int) := by omega
        go_upto_region 7 with fail
        go_cut [] (fun wx => ∃ a c F, RepS W b wx (.slice a7 n7 c7) (.slice a F.length c) (ps.take ni ++ qs ++ ps.drop nj) F ∧ keysOf F = keysOf (L.take ni))
        case first =>
          cases a2 with
          | none =>
            have h0 : c2 = 0 := hn2 rfl
            have h9 : ni = 0 := by omega
            subst h0
            subst h9
            clear hn2
            go_wp2_with fail
            refine (refCopies_any HKT.out (by rw [List.length_take]; omega)).mono ?_
            rintro e w8 ⟨v8, rfl, F, hk8, hkF, hb8⟩
            obtain ⟨a8, c8, rfl⟩ := hk8.form
            have HK8 : Hid (NewKeys W.heap.size w8 (.slice a8 F.length c8) F) := hk8.mono hs7
            have HB8 : Hid (Keep 27 W.heap.size W7 w8) := Keep.of hb8 hs7
            have HKF : Hid (keysOf F = keysOf (L.take 0)) := hkF
            obtain ⟨_, y1⟩ := (HS7.out.box.keep HB8.out (by decide)).cells
            obtain ⟨_, f1⟩ := (HS7.out.box.keep HB8.out (by decide)).open
            clear hk8 hkF hb8
            go_wp2_with fail
            go_meet
            exact ⟨_, _, F, HS7.out.put1 HBB.out HB8.out HK8.out, HKF.out⟩
          | some ad =>
            obtain ⟨gx, ox, sx⟩ := ad
            clear hn2
            go_wp2_with fail
            refine (refCopies_any HKT.out (by rw [List.length_take]; omega)).mono ?_
            rintro e w8 ⟨v8, rfl, F, hk8, hkF, hb8⟩
            obtain ⟨a8, c8, rfl⟩ := hk8.form
            have HK8 : Hid (NewKeys W.heap.size w8 (.slice a8 F.length c8) F) := hk8.mono hs7
            have HB8 : Hid (Keep 27 W.heap.size W7 w8) := Keep.of hb8 hs7
            have HKF : Hid (keysOf F = keysOf (L.take ni)) := hkF
            obtain ⟨_, y1⟩ := (HS7.out.box.keep HB8.out (by decide)).cells
            obtain ⟨_, f1⟩ := (HS7.out.box.keep HB8.out (by decide)).open
            clear hk8 hkF hb8
            go_wp2_with fail
            go_meet
            exact ⟨_, _, F, HS7.out.put1 HBB.out HB8.out HK8.out, HKF.out⟩
        case rest =>
          obtain ⟨a8, c8, F, hs8, hkF⟩ := hcut
          obtain ⟨W8, rfl⟩ : ∃ W8, W8 = wc := ⟨_, rfl⟩
          have HS8 : Hid (RepS W b W8 (.slice a7 n7 c7) (.slice a8 F.length c8) (ps.take ni ++ qs ++ ps.drop nj) F) := hs8
          have HKF : Hid (keysOf F = keysOf (L.take ni)) := hkF
          have hF : F.length = ni := by have := congrArg List.length hkF; rw [keysOf_length, keysOf_length, List.length_take] at this; omega
          clear hs8 hkF k0 k1 l0 l1 z0 z1 HKT HS7 hs7 hnk
          obtain ⟨⟨k0, k1⟩, l0, l1⟩ := HCL.out W8 HS8.out.low
          obtain ⟨z0, z1⟩ := HS8.out.box.cells
          have HMC : Hid (∀ W', Below W.heap.size W W' → Calls Try.prog 48 #[.slice a4 M.length c4] W' fun r w' => ∃ u, r = .returned u ∧ ∃ F, NewKeys W'.heap.size w' u F ∧ keysOf F = keysOf M ∧ Below W'.heap.size W' w') := fun W' hb => refCopied (HM.out.here hb) (by omega)
          have hs8 := HS8.out.low.size
          have hMl : M.length ≤ 2147483647 := by omega
          have hFl : F.length ≤ 2147483647 := by omega
          clear hF
          go_upto_region 8 with fail
          go_cut [] (fun wx => ∃ a n c H, RepS W b wx (.slice a7 n7 c7) (.slice a n c) (ps.take ni ++ qs ++ ps.drop nj) H ∧ H.length = n ∧ n ≤ 4294967294 ∧ keysOf H = keysOf (L.take ni ++ M))
          case first =>
            go_region_law
              (first
                | (refine step_call_new (by rfl) 48 (Go.Proofs.enters_of Try.func48 (by kernel_rfl) rfl) _ _ (by rfl) _ _ (by rfl) (by exact HMC.out _ (by first | exact HS8.out.low | exact HS8.out.low.drew)) ?_
                   rintro vg w9 ⟨G, hg9, hkG, hb9⟩
                   have hb9' : Below W8.heap.size W8 w9 := by first | exact hb9 | exact ((Below.refl _ _).drew).trans hb9
                   have HNG : Hid (NewKeys W8.heap.size w9 vg G) := hg9
                   have HKG : Hid (keysOf G = keysOf M) := hkG
                   have HB9 : Hid (Below W8.heap.size W8 w9) := hb9'
                   have hGl : G.length ≤ 2147483647 := by have := congrArg List.length hkG; rw [keysOf_length, keysOf_length] at this; omega
                   have HOF : Hid (w9.ownsRow W.heap.size 27 1 (.slice a8 F.length c8) (F.map Kc.v).length (F.map Kc.v)) := by
                     have := (HS8.out.keys.here hb9').own
                     rw [List.length_map]; exact this
                   have HKA : Hid (KeysAt w9.heap.size w9 vg G) := HNG.out.at (by omega)
                   obtain ⟨ag, cg, eg⟩ := HNG.out.form
                   subst eg
                   obtain ⟨x0, x1⟩ := (HS8.out.box.here hb9').cells
                   clear hg9 hkG hb9 hb9')
                | (refine step_append_rows (by rfl) _ _ 24 (by rfl) 27 i7 (.slice none 0 0) 24 Try.underlying24 hi7 hz70 hz71 hz72 rfl W.heap.size (.slice a8 F.length c8) _ (F.map Kc.v) (G.map Kc.v) (by rfl) (by exact ⟨.inl HOF.out⟩) (by rfl) (by exact HKA.out.row) (oneK HKA.out.ok) (by rw [List.length_map, List.length_map]; unfold maxLen; omega) (by rw [List.length_map, List.length_map]; omega) (by exact (HS8.out.low.trans (HB9.out.mono hs8)).size) ?_
                   intro v10 w10 _ hk10 ho10
                   have hn10 := HS8.out.keys.both HB9.out hs8 HNG.out hk10 (ho10 (.inr HOF.out))
                   have HN10 : Hid (NewKeys W.heap.size w10 v10 (F ++ G)) := hn10
                   obtain ⟨a10, n10, c10, e10, hl10⟩ := hn10.form2
                   subst e10
                   have HL10 : Hid ((F ++ G).length = n10) := hl10
                   have HM10 : Hid (n10 ≤ 4294967294) := by have := hl10; rw [List.length_append] at this; rw [Hid]; omega
                   have HK10 : Hid (Keep 27 W.heap.size W8 w10) := (Keep.of HB9.out hs8).trans hk10
                   have HKH : Hid (keysOf (F ++ G) = keysOf (L.take ni ++ M)) := by
                     rw [Hid, keysOf_app, keysOf_app, HKF.out, HKG.out]
                   obtain ⟨_, y1⟩ := (HS8.out.box.keep HK10.out (by decide)).cells
                   obtain ⟨_, f1⟩ := (HS8.out.box.keep HK10.out (by decide)).open
                   clear hk10 ho10 hn10 hl10))
            all_goals
              go_wp2_with fail
              go_meet
              exact ⟨_, _, _, _, HS8.out.put1 HBB.out HK10.out HN10.out, HL10.out, HM10.out, HKH.out⟩
          case rest =>
            obtain ⟨ah, nh, ch, H, hsh, hlh, hmh, hkh⟩ := hcut
            obtain ⟨W9, rfl⟩ : ∃ W9, W9 = wc := ⟨_, rfl⟩
            have HS9 : Hid (RepS W b W9 (.slice a7 n7 c7) (.slice ah nh ch) (ps.take ni ++ qs ++ ps.drop nj) H) := hsh
            have HLH : Hid (H.length = nh) := hlh
            have HKH : Hid (keysOf H = keysOf (L.take ni ++ M)) := hkh
            clear hsh hlh hkh k0 k1 l0 l1 z0 z1 HMC hs8 hFl HKF HS8
            obtain ⟨⟨k0, k1⟩, l0, l1⟩ := HCL.out W9 HS9.out.low
            obtain ⟨z0, z1⟩ := HS9.out.box.cells
            obtain ⟨nk, hnk⟩ : ∃ nk : Nat, nj = nk + 1 := ⟨nj - 1, by omega⟩
            have hnj1 : (nj : Int) - 1 = (nk : Int) := by omega
            have hwk : IntKind.i64.wrap (nk : Int) = (nk : Int) := wrapk_of _ (by omega) (by omega)
            have HNK : Hid (nj = nk + 1) := hnk
            have hkc : (nk : Int) ≤ (L.length : Int) := by omega
            have hc2k : (nk : Int) ≤ (c2 : Int) := by omega
            have hs9 := HS9.out.low.size
            have hRK : replK (kd ps L) ni nj (kd qs M) = ⟨ps.take ni ++ qs ++ ps.drop nj, keysOf (L.take ni ++ M ++ L.drop nk)⟩ := by
              have e : nj - 1 = nk := by omega
              simp [replK, kd, keysOf, e]
            have HRK : Hid _ := hRK
            clear hRK hnk
            have hLl : L.length ≤ 2147483647 := by omega
            go_upto_region 9 with fail
            go_cut [] (fun wx => ∃ a n c H, RepS W b wx (.slice a7 n7 c7) (.slice a n c) (ps.take ni ++ qs ++ ps.drop nj) H ∧ keysOf H = keysOf (L.take ni ++ M ++ L.drop nk))
            case first =>
              obtain ⟨ax, hax, HKD⟩ : ∃ ax : Option Addr, ((a2 = none ∧ ax = none) ∨ (∃ g2 o2 s2, a2 = some ⟨g2, o2, s2⟩ ∧ c2 = nk ∧ ax = some ⟨g2, o2, s2⟩) ∨ ∃ g2 o2 s2, a2 = some ⟨g2, o2, s2⟩ ∧ c2 ≠ nk ∧ ax = some ((⟨g2, o2, s2⟩ : Addr).add nk)) ∧ Hid (∀ W', Below W.heap.size W W' → KeysAt W'.heap.size W' (.slice ax (L.length - nk) (c2 - nk)) (L.drop nk)) := by
                have hok : ∀ W', Below W.heap.size W W' → (L.drop nk).length * 24 ≤ 140737488420864 ∧ ∀ e ∈ L.drop nk, KeyIn W'.heap.size W' e.v e.k := fun W' hb =>
                  ⟨by rw [List.length_drop]; omega, fun e he => (HK.out.here hb).ok e (List.mem_of_mem_drop he)⟩
                cases a2 with
                | none =>
                  refine ⟨none, .inl ⟨rfl, rfl⟩, fun W' hb => ⟨?_, (hok W' hb).1, (hok W' hb).2⟩⟩
                  have h0 := hn2 rfl
                  rw [List.drop_of_length_le (by omega), show L.length - nk = 0 by omega, show c2 - nk = 0 by omega]
                  exact CellsAt.nil _ _
                | some ad =>
                  obtain ⟨g2, o2, s2⟩ := ad
                  by_cases hcn : c2 = nk
                  · refine ⟨_, .inr (.inl ⟨_, _, _, rfl, hcn, rfl⟩), fun W' hb => ⟨?_, (hok W' hb).1, (hok W' hb).2⟩⟩
                    rw [show L.length - nk = 0 by omega, List.drop_of_length_le (by omega)]
                    exact CellsAt.void _ _ _ _
                  · refine ⟨_, .inr (.inr ⟨_, _, _, rfl, hcn, rfl⟩), fun W' hb => ⟨?_, (hok W' hb).1, (hok W' hb).2⟩⟩
                    by_cases h0 : L.length - nk = 0
                    · rw [h0, List.drop_of_length_le (by omega)]
                      exact CellsAt.void _ _ _ _
                    · rw [List.map_drop]
                      obtain ⟨e, he⟩ : ∃ e, L[0]? = some e := ⟨L[0]'(by omega), List.getElem?_eq_getElem _⟩
                      obtain ⟨_, _, _, e1, _⟩ := HK.out.cell 0 e he
                      cases e1
                      rw [add_at]
                      exact ((HK.out.here hb).row).drop nk (by omega)
              have HLC : Hid (∀ W', Below W.heap.size W W' → Calls Try.prog 48 #[.slice ax (L.length - nk) (c2 - nk)] W' fun r w' => ∃ u, r = .returned u ∧ ∃ F, NewKeys W'.heap.size w' u F ∧ keysOf F = keysOf (L.drop nk) ∧ Below W'.heap.size W' w') := fun W' hb => by
                have h := HKD.out W' hb
                have e : (L.drop nk).length = L.length - nk := List.length_drop ..
                rw [← e] at h ⊢
                exact refCopied h (by rw [e]; omega)
              obtain ⟨D, hD⟩ : ∃ D, D = L.drop nk := ⟨_, rfl⟩
              have hDl : D.length ≤ 2147483647 := by rw [hD, List.length_drop]; omega
              rw [← hD] at HLC
              have HD : Hid _ := hD
              clear hD
              have HAX := hax
              clear HKD HK hn2
              clear hax
              rcases HAX with ⟨rfl, rfl⟩ | ⟨g2, o2, s2, rfl, rfl, rfl⟩ | ⟨g2, o2, s2, rfl, hcn, rfl⟩
              case' inr.inl =>
                have h0 : L.length - c2 = 0 := by omega
                rw [Nat.sub_self, h0] at HLC
              all_goals
                go_region_law
                  (first
                    | (refine step_call_new (by rfl) 48 (Go.Proofs.enters_of Try.func48 (by kernel_rfl) rfl) _ _ (by rfl) _ _ (by rfl) (by exact HLC.out _ (by first | exact HS9.out.low | exact HS9.out.low.drew)) ?_
                       rintro vg w9 ⟨G, hg9, hkG, hb9⟩
                       have hb9' : Below W9.heap.size W9 w9 := by first | exact hb9 | exact ((Below.refl _ _).drew).trans hb9
                       have HNG : Hid (NewKeys W9.heap.size w9 vg G) := hg9
                       have HKG : Hid (keysOf G = keysOf D) := hkG
                       have HB9 : Hid (Below W9.heap.size W9 w9) := hb9'
                       have hGl : G.length ≤ 2147483647 := by have := congrArg List.length hkG; rw [keysOf_length, keysOf_length] at this; omega
                       have HOF : Hid (w9.ownsRow W.heap.size 27 1 (.slice ah nh ch) (H.map Kc.v).length (H.map Kc.v)) := by
                         have := (HS9.out.keys.here hb9').own
                         rw [List.length_map]
                         exact this
                       have HKA : Hid (KeysAt w9.heap.size w9 vg G) := HNG.out.at (by omega)
                       obtain ⟨ag, cg, eg⟩ := HNG.out.form
                       subst eg
                       obtain ⟨x0, x1⟩ := (HS9.out.box.here hb9').cells
                       clear hg9 hkG hb9 hb9')
                    | (refine step_append_rows (by rfl) _ _ 24 (by rfl) 27 i7 (.slice none 0 0) 24 Try.underlying24 hi7 hz70 hz71 hz72 rfl W.heap.size (.slice ah nh ch) _ (H.map Kc.v) (G.map Kc.v) (by rfl) (by exact ⟨.inl HOF.out⟩) (by rfl) (by exact HKA.out.row) (oneK HKA.out.ok) (by rw [List.length_map, List.length_map, HLH.out]; unfold maxLen; omega) (by rw [List.length_map, List.length_map, HLH.out]; omega) (by exact (HS9.out.low.trans (HB9.out.mono hs9)).size) ?_
                       intro v10 w10 _ hk10 ho10
                       have hn10 := HS9.out.keys.both HB9.out hs9 HNG.out hk10 (ho10 (.inr HOF.out))
                       have HN10 : Hid (NewKeys W.heap.size w10 v10 (H ++ G)) := hn10
                       obtain ⟨a10, n10, c10, e10, hl10⟩ := hn10.form2
                       subst e10
                       have HK10 : Hid (Keep 27 W.heap.size W9 w10) := (Keep.of HB9.out hs9).trans hk10
                       have HKI : Hid (keysOf (H ++ G) = keysOf (L.take ni ++ M ++ D)) := by
                         rw [Hid, keysOf_app, keysOf_app (L.take ni ++ M), HKH.out, HKG.out]
                       obtain ⟨_, y1⟩ := (HS9.out.box.keep HK10.out (by decide)).cells
                       obtain ⟨_, f1⟩ := (HS9.out.box.keep HK10.out (by decide)).open
                       clear hk10 ho10 hn10 hl10))
              all_goals
                go_wp2_with fail
                go_meet
                exact ⟨_, _, _, _, HS9.out.put1 HBB.out HK10.out HN10.out, by rw [← HD.out]; exact HKI.out⟩
            case rest =>
              obtain ⟨ai, n2, ci, I, hsi, hki⟩ := hcut
              obtain ⟨WA, rfl⟩ : ∃ WA, WA = wc := ⟨_, rfl⟩
              have HSA : Hid (RepS W b WA (.slice a7 n7 c7) (.slice ai n2 ci) (ps.take ni ++ qs ++ ps.drop nj) I) := hsi
              have HKI : Hid (keysOf I = keysOf (L.take ni ++ M ++ L.drop nk)) := hki
              clear hsi hki k0 k1 l0 l1 z0 z1 HS9 HKH HLH hs9
              obtain ⟨z0, z1⟩ := HSA.out.box.cells
              obtain ⟨r0, r1⟩ := (HZ.out.here HSA.out.low).cells
              obtain ⟨s0, s1⟩ := (HZ.out.here HSA.out.low).open
              go_wp2_with fail
              refine bodyPost_ret (ret_kids2 (u := .int .i64 0) rfl rfl rfl ((HZ.out.here HSA.out.low).put _ _)) rfl ⟨_, rfl, ?_, ?_⟩
              · rw [HRK.out]
                exact repl_end (HZ.out.here HSA.out.low) (by omega) HBW.out.size HSA.out.ints HSA.out.keys HKI.out
              · exact (HBW.out.trans (HSA.out.low.mono HBW.out.size)).trans (keep_two (HZ.out.here HSA.out.low) (show w.heap.size ≤ w.heap.size + 2 by omega) _ _).low
end Go.Proofs.Ytaehchijeinloaa
