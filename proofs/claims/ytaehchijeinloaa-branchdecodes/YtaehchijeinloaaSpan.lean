/- Span. -/
import Derived.Test.YtaehchijeinloaaDec
namespace Go.Proofs.Ytaehchijeinloaa
open Go.RowKit

theorem ret_box2 {fn : Func} {p q : Tmp} (h : fn.results = #[.cell p 47, .tmp q]) {tmps : Array Value} {w : World} {b : Nat} {x y z u : Value} (hp : tmps.getD p undef = .pointer (some ⟨b, 0, none⟩)) (hq : tmps.getD q undef = u) (hB : Box w b x y z) :
    (results fn tmps).run Try.prog w = .ok (.tuple #[.agg #[x, y, z], u]) w := by
  have e1 := run_loadVar_row (P := Try.prog) w b 47 47 #[x, y, z] (0, 0) _ hB.row Try.underlying47 rfl info36
  have hp' : tmps[p]?.getD undef = .pointer (some ⟨b, 0, none⟩) := by simpa using hp
  have hq' : tmps[q]?.getD undef = u := by simpa using hq
  simp [results, h, hp', hq', asAddr, e1]
/-- The keys that a child has. -/
def ownR (d : Kd) (i : Nat) : Rg := ⟨if 0 < i then d.ks[i - 1]?.getD [] else [], if i < d.ks.length then d.ks[i]?.getD [] else [], !decide (i < d.ks.length)⟩
def spanE (d : Kd) (i : Int) : Nat := if d.fit = true ∧ 0 ≤ i ∧ i < d.ps.length then 0 else 1
def spanR (d : Kd) (r : Rg) (i : Int) : Rg := if spanE d i = 0 then r.meet (ownR d i.toNat) else Rg.zero

theorem NewRange.keep {base T B : Nat} {w w' : World} {v : Value} {r : Rg} (h : NewRange base w v r) (hk : Keep T B w w') (hT : 5 ≠ T) : NewRange base w' v r := by
  obtain ⟨v1, v2, e, h1, h2, h3⟩ := h.is
  exact ⟨v1, v2, e, h1.keep hk hT, h2.keep hk hT, h3⟩
theorem NewRange.mono {base base' : Nat} {w : World} {v : Value} {r : Rg} (h : NewRange base w v r) (hb : base' ≤ base) : NewRange base' w v r := by
  obtain ⟨v1, v2, rfl, h1, h2, h3⟩ := h.is
  exact ⟨v1, v2, rfl, h1.mono hb, h2.mono hb, h3⟩
theorem Box.keeps {w : World} {B b : Nat} {x y z : Value} (h : Box w b x y z) (hb : B ≤ b) (x' y' z' : Value) : Keep 47 B w (put3 w b x' y' z') :=
  ((keep_set h.row hb x').trans (keep_set (h.set0 x').row hb y')).trans (keep_set ((h.set0 x').set1 y').row hb z')

/-- The end of Span: what Meet tells, stored into the result. -/
theorem span_end {w wm : World} {v' x y z : Value} {r : Rg} {b base : Nat} (h : NewRange base wm v' r) (hx : Box wm b x y z) (hb : w.heap.size ≤ b) (hbase : w.heap.size ≤ base) (hlow : Below w.heap.size w wm) :
    ∃ b1 d1 b2 d2, v' = .agg #[.slice b1 r.lo.length d1, .slice b2 r.hi.length d2, .bool r.all] ∧ Box (put3 wm b (.slice b1 r.lo.length d1) (.slice b2 r.hi.length d2) (.bool r.all)) b (.slice b1 r.lo.length d1) (.slice b2 r.hi.length d2) (.bool r.all) ∧ NewRange w.heap.size (put3 wm b (.slice b1 r.lo.length d1) (.slice b2 r.hi.length d2) (.bool r.all)) v' r ∧ Below w.heap.size w (put3 wm b (.slice b1 r.lo.length d1) (.slice b2 r.hi.length d2) (.bool r.all)) := by
  obtain ⟨b1, d1, b2, d2, e⟩ := h.slices
  have hk := hx.keeps (B := w.heap.size) hb (.slice b1 r.lo.length d1) (.slice b2 r.hi.length d2) (.bool r.all)
  exact ⟨b1, d1, b2, d2, e, put3_box hx, (h.mono hbase).keep hk (by decide), hlow.trans hk.low⟩

set_option maxHeartbeats 3200000 in
set_option maxRecDepth 100000 in
theorem span_any {w : World} {v u : Value} {ps : List Int} {L : List Kc} {r : Rg} {i : Int} (h : KidsAt w.heap.size w v ps L) (hu : RangeAt w u r) (hi : (Lit.int .i64 i).wf = true) :
    Calls Try.prog 20 #[v, u, .int .i64 i] w fun e w' => ∃ v', e = .returned (.tuple #[v', .int .i64 (spanE (kd ps L) i : Nat)]) ∧ NewRange w.heap.size w' v' (spanR (kd ps L) r i) ∧ Below w.heap.size w w' := by
  obtain ⟨vp, vk, rfl, h1, h2⟩ := h.is
  obtain ⟨a1, c1, rfl⟩ := h1.form
  obtain ⟨a2, c2, rfl⟩ := h2.form
  obtain ⟨u1, u2, rfl, hu1, hu2⟩ := hu.is
  obtain ⟨a3, c3, rfl⟩ := hu1.in.form
  obtain ⟨a4, c4, rfl⟩ := hu2.in.form
  have hs1 := h1.short
  have hs2 := h2.short
  obtain ⟨W, hW⟩ : ∃ W, W = ((w.alloc (.cells #[.slice a1 ps.length c1, .slice a2 L.length c2] 26)).alloc (.cells #[.slice a3 r.lo.length c3, .slice a4 r.hi.length c4, .bool r.all] 47)).alloc (.cells #[.slice none 0 0, .slice none 0 0, .bool false] 47) := ⟨_, rfl⟩
  have HBW : Hid (Below w.heap.size w W) := by rw [hW]; exact ((below_new w _).alloc (by simp) _).alloc (by simp; omega) _
  have HX : Hid (KBox W w.heap.size (.slice a1 ps.length c1) (.slice a2 L.length c2)) := by
    rw [hW]; exact ((KBox.new w _ _).here (below_new _ _)).here (below_new _ _)
  have HY : Hid (Box W (w.heap.size + 1) (.slice a3 r.lo.length c3) (.slice a4 r.hi.length c4) (.bool r.all)) := by
    rw [hW]
    have := (Box.new (w.alloc (.cells #[.slice a1 ps.length c1, .slice a2 L.length c2] 26)) (.slice a3 r.lo.length c3) (.slice a4 r.hi.length c4) (.bool r.all)).alloc (.cells #[.slice none 0 0, .slice none 0 0, .bool false] 47)
    show Box _ _ _ _ _
    simpa using this
  have HZ : Hid (Box W (w.heap.size + 2) (.slice none 0 0) (.slice none 0 0) (.bool false)) := by
    rw [hW]
    have := Box.new ((w.alloc (.cells #[.slice a1 ps.length c1, .slice a2 L.length c2] 26)).alloc (.cells #[.slice a3 r.lo.length c3, .slice a4 r.hi.length c4, .bool r.all] 47)) (.slice none 0 0) (.slice none 0 0) (.bool false)
    show Box _ _ _ _ _
    simpa using this
  have HFI : Hid (Calls Try.prog 43 #[.agg #[.slice a1 ps.length c1, .slice a2 L.length c2]] W fun r w' => r = .returned (.bool (kd ps L).fit) ∧ Below W.heap.size W w') := fit_any (KidsAt.here ⟨_, _, rfl, h1, h2⟩ HBW.out)
  have HKS : Hid (KeysAt W.heap.size W (.slice a2 L.length c2) L) := h2.here HBW.out
  have HRA : Hid (RangeAt W (.agg #[.slice a3 r.lo.length c3, .slice a4 r.hi.length c4, .bool r.all]) r) := hu.here HBW.out
  clear h hu h1 h2 hu1 hu2
  obtain ⟨k0, k1⟩ := HX.out.cells
  have HBAD : Hid (∀ W', spanE (kd ps L) i = 1 → Below W.heap.size W W' → Box W' (w.heap.size + 2) (.slice none 0 0) (.slice none 0 0) (.bool false) →
      ∃ v', Ending.returned (.tuple #[.agg #[.slice none 0 0, .slice none 0 0, .bool false], .int .i64 1]) = .returned (.tuple #[v', .int .i64 (spanE (kd ps L) i : Nat)]) ∧ NewRange w.heap.size (put3 W' (w.heap.size + 2) (.slice none 0 0) (.slice none 0 0) (.bool false)) v' (spanR (kd ps L) r i) ∧ Below w.heap.size w (put3 W' (w.heap.size + 2) (.slice none 0 0) (.slice none 0 0) (.bool false))) := fun W' he hb hx =>
    ⟨_, by rw [he]; rfl, by unfold spanR; rw [he, if_neg (by decide)]; exact NewRange.zero _ _, put3_below (HBW.out.trans (hb.mono HBW.out.size)) (by omega) _ _ _⟩
  cases hf : (kd ps L).fit with
  | false =>
    have HE : Hid (spanE (kd ps L) i = 1) := by unfold spanE; rw [Hid, if_neg (by rw [hf]; simp)]
    rw [hf] at HFI
    clear hf
    go_enter Try.func20, Try.ntmps20
    go_upto_region 1 with fail
    rw [← hW]
    clear hW
    go_wp2_with fail
    refine HFI.out.mono ?_
    rintro e w1 ⟨rfl, hb1⟩
    have HB1 : Hid (Below W.heap.size W w1) := hb1
    have HZ1 : Hid _ := HZ.out.here hb1
    obtain ⟨z0, z1, z2⟩ := (HZ.out.here hb1).cells
    obtain ⟨f0, f1, f2⟩ := (HZ.out.here hb1).open
    clear hb1 k0 k1 HFI
    go_wp2
    exact bodyPost_ret (ret_box2 (u := .int .i64 1) rfl rfl rfl (put3_box HZ1.out)) rfl (HBAD.out w1 HE.out HB1.out HZ1.out)
  | true =>
    have hfl := fit_iff.1 hf
    have hlL : L.length + 1 = ps.length := by
      have : (kd ps L).ks.length = L.length := keysOf_length L
      have h2 := hfl.2
      rw [this] at h2
      exact h2
    rw [hf] at HFI
    by_cases hi0 : i < 0
    · have HE : Hid (spanE (kd ps L) i = 1) := by unfold spanE; rw [Hid, if_neg (by omega)]
      clear hf hfl
      go_enter Try.func20, Try.ntmps20
      go_upto_region 1 with fail
      rw [← hW]
      clear hW
      go_wp2_with fail
      refine HFI.out.mono ?_
      rintro e w1 ⟨rfl, hb1⟩
      have HB1 : Hid (Below W.heap.size W w1) := hb1
      have HZ1 : Hid _ := HZ.out.here hb1
      obtain ⟨z0, z1, z2⟩ := (HZ.out.here hb1).cells
      obtain ⟨f0, f1, f2⟩ := (HZ.out.here hb1).open
      clear hb1 k0 k1 HFI
      go_wp2
      exact bodyPost_ret (ret_box2 (u := .int .i64 1) rfl rfl rfl (put3_box HZ1.out)) rfl (HBAD.out w1 HE.out HB1.out HZ1.out)
    · obtain ⟨n, hn⟩ : ∃ n : Nat, i = (n : Int) := ⟨i.toNat, by omega⟩
      subst hn
      by_cases hip : ps.length ≤ n
      · have hipz : (ps.length : Int) ≤ (n : Int) := by omega
        have HE : Hid (spanE (kd ps L) n = 1) := by unfold spanE; rw [Hid, if_neg (by show ¬ (_ ∧ _ ∧ (n : Int) < (ps.length : Nat)); omega)]
        clear hf hfl
        go_enter Try.func20, Try.ntmps20
        go_upto_region 1 with fail
        rw [← hW]
        clear hW
        go_wp2_with fail
        refine HFI.out.mono ?_
        rintro e w1 ⟨rfl, hb1⟩
        have HB1 : Hid (Below W.heap.size W w1) := hb1
        have HZ1 : Hid _ := HZ.out.here hb1
        obtain ⟨z0, z1, z2⟩ := (HZ.out.here hb1).cells
        obtain ⟨f0, f1, f2⟩ := (HZ.out.here hb1).open
        obtain ⟨m0, m1⟩ := (HX.out.here hb1).cells
        clear hb1 k0 k1 HFI
        go_wp2
        exact bodyPost_ret (ret_box2 (u := .int .i64 1) rfl rfl rfl (put3_box HZ1.out)) rfl (HBAD.out w1 HE.out HB1.out HZ1.out)
      · have hipz : ¬ (ps.length : Int) ≤ (n : Int) := by omega
        have HE : Hid (spanE (kd ps L) n = 0) := by unfold spanE; rw [Hid, if_pos ⟨hf, by omega, by show (n : Int) < (ps.length : Nat); omega⟩]
        have HSR : Hid (spanR (kd ps L) r n = r.meet (ownR (kd ps L) n)) := by unfold spanR; rw [Hid, HE.out]; rfl
        clear hf hfl
        go_enter Try.func20, Try.ntmps20
        go_upto_region 1 with fail
        rw [← hW]
        clear hW
        go_wp2_with fail
        refine HFI.out.mono ?_
        rintro e w1 ⟨rfl, hb1⟩
        have HB1 : Hid (Below W.heap.size W w1) := hb1
        have HX1 : Hid _ := HX.out.here hb1
        have HY1 : Hid _ := HY.out.here hb1
        have HZ1 : Hid _ := HZ.out.here hb1
        obtain ⟨m0, m1⟩ := (HX.out.here hb1).cells
        clear hb1 k0 k1 HFI
        go_upto_region 4 with fail
        obtain ⟨W2, hW2⟩ : ∃ W2, W2 = w1.alloc (.cells #[.slice none 0 0, .slice none 0 0, .bool true] 47) := ⟨_, rfl⟩
        rw [← hW2]
        have hb2 : Below w1.heap.size w1 W2 := by rw [hW2]; exact below_new _ _
        have HB2 : Hid (Below W.heap.size W W2) := HB1.out.trans (hb2.mono HB1.out.size)
        have HX2 : Hid (KBox W2 w.heap.size (.slice a1 ps.length c1) (.slice a2 L.length c2)) := HX1.out.here hb2
        have HY2 : Hid (Box W2 (w.heap.size + 1) (.slice a3 r.lo.length c3) (.slice a4 r.hi.length c4) (.bool r.all)) := HY1.out.here hb2
        have HZ2 : Hid (Box W2 (w.heap.size + 2) (.slice none 0 0) (.slice none 0 0) (.bool false)) := HZ1.out.here hb2
        have HH2 : Hid (Box W2 w1.heap.size (.slice none 0 0) (.slice none 0 0) (.bool true)) := by rw [hW2]; exact Box.new _ _ _ _
        have HFAR : Hid (w.heap.size + 2 < w1.heap.size) := by
          have h1 := HZ1.out.lt
          exact h1
        have HWF : Hid (W.heap.size ≤ w1.heap.size) := HB1.out.size
        clear hW2 hb2 HX1 HY1 HZ1 m0 m1
        obtain ⟨m0, m1⟩ := HX2.out.cells
        by_cases hlo : 0 < n
        · have hloz : (0 : Int) < (n : Int) := by omega
          obtain ⟨j, hj⟩ : ∃ j : Nat, n = j + 1 := ⟨n - 1, by omega⟩
          have hn1 : (n : Int) - 1 = (j : Int) := by omega
          have hn2 : (j : Int) < (L.length : Int) := by omega
          have hwj : IntKind.i64.wrap (j : Int) = (j : Int) := wrapk_of _ (by omega) (by omega)
          obtain ⟨el, hel⟩ : ∃ e, L[j]? = some e := ⟨L[j]'(by omega), List.getElem?_eq_getElem _⟩
          obtain ⟨gl, ol, _, e1, hcl⟩ := (HKS.out.here HB2.out).cell j el hel
          cases e1
          obtain ⟨al, cl, el2⟩ := (HKS.out.ok el (List.mem_of_getElem? hel)).form
          have HKL : Hid (KeyIn W.heap.size W (.slice al el.k.length cl) el.k) := by
            rw [← el2]; exact HKS.out.ok el (List.mem_of_getElem? hel)
          rw [el2] at hcl
          have HLK : Hid ((kd ps L).ks[n - 1]? = some el.k) := by
            rw [Hid, hj, Nat.add_sub_cancel]; exact keysOf_get hel
          obtain ⟨x0, x1, x2⟩ := HH2.out.cells
          obtain ⟨f0, f1, f2⟩ := HH2.out.open
          clear el2 hel hj
          go_upto_region 6 with fail
          obtain ⟨W3, hW3⟩ : ∃ W3, W3 = W2.setCell ⟨w1.heap.size, 0, none⟩ (.slice al el.k.length cl) := ⟨_, rfl⟩
          rw [← hW3]
          have HK3 : Hid (Keep 47 W.heap.size W2 W3) := by
            rw [hW3]
            exact keep_set HH2.out.row HWF.out _
          have HB3 : Hid (Below W.heap.size W W3) := HB2.out.trans HK3.out.low
          have HX3 : Hid _ := HX2.out.keep HK3.out (by decide)
          have HY3 : Hid (Box W3 (w.heap.size + 1) (.slice a3 r.lo.length c3) (.slice a4 r.hi.length c4) (.bool r.all)) := by
            have := HFAR.out
            rw [hW3]; exact HY2.out.other _ (by omega)
          have HZ3 : Hid (Box W3 (w.heap.size + 2) (.slice none 0 0) (.slice none 0 0) (.bool false)) := by
            have := HFAR.out
            rw [hW3]; exact HZ2.out.other _ (by omega)
          have HH3 : Hid (Box W3 w1.heap.size (.slice al el.k.length cl) (.slice none 0 0) (.bool true)) := by rw [hW3]; exact HH2.out.set0 _
          clear hW3 x0 x1 x2 f0 f1 f2 m0 m1 hcl
          obtain ⟨m0, m1⟩ := HX3.out.cells
          by_cases hhi : n < L.length
          · have hhiz : (n : Int) < (L.length : Int) := by omega
            obtain ⟨eh, heh⟩ : ∃ e, L[n]? = some e := ⟨_, List.getElem?_eq_getElem hhi⟩
            obtain ⟨gh, oh, _, e1, hch⟩ := (HKS.out.here HB3.out).cell n eh heh
            cases e1
            obtain ⟨ah, ch, eh2⟩ := (HKS.out.ok eh (List.mem_of_getElem? heh)).form
            have HKH : Hid (KeyIn W.heap.size W (.slice ah eh.k.length ch) eh.k) := by
              rw [← eh2]; exact HKS.out.ok eh (List.mem_of_getElem? heh)
            rw [eh2] at hch
            have HOWN : Hid (ownR (kd ps L) n = ⟨el.k, eh.k, false⟩) := by
              have hkl : (kd ps L).ks.length = L.length := keysOf_length L
              have hk : (kd ps L).ks[n]? = some eh.k := keysOf_get heh
              unfold ownR
              rw [Hid, hkl, if_pos hhi, hk, decide_eq_true hhi, if_pos hlo, HLK.out]
              rfl
            obtain ⟨x0, x1, x2⟩ := HH3.out.cells
            obtain ⟨f0, f1, f2⟩ := HH3.out.open
            clear eh2 heh
            go_upto_region 8 with fail
            obtain ⟨W5, hW5⟩ : ∃ W5, W5 = (W3.setCell ⟨w1.heap.size, 1, none⟩ (.slice ah eh.k.length ch)).setCell ⟨w1.heap.size, 2, none⟩ (.bool false) := ⟨_, rfl⟩
            rw [← hW5]
            have HK5 : Hid (Keep 47 W.heap.size W3 W5) := by
              rw [hW5]
              exact (keep_set HH3.out.row HWF.out _).trans (keep_set (HH3.out.set1 _).row HWF.out _)
            have HB5 : Hid (Below W.heap.size W W5) := HB3.out.trans HK5.out.low
            have HY5 : Hid (Box W5 (w.heap.size + 1) (.slice a3 r.lo.length c3) (.slice a4 r.hi.length c4) (.bool r.all)) := by
              have := HFAR.out
              rw [hW5]; exact (HY3.out.other _ (by omega)).other _ (by omega)
            have HZ5 : Hid (Box W5 (w.heap.size + 2) (.slice none 0 0) (.slice none 0 0) (.bool false)) := by
              have := HFAR.out
              rw [hW5]; exact (HZ3.out.other _ (by omega)).other _ (by omega)
            have HH5 : Hid (Box W5 w1.heap.size (.slice al el.k.length cl) (.slice ah eh.k.length ch) (.bool false)) := by rw [hW5]; exact (HH3.out.set1 _).set2 _
            clear hW5 x0 x1 x2 f0 f1 f2 m0 m1 hch
            have HRG : Hid (RangeAt W5 (.agg #[.slice al el.k.length cl, .slice ah eh.k.length ch, .bool false]) (ownR (kd ps L) n)) := by
              rw [Hid, HOWN.out]
              exact ⟨_, _, rfl, (HKL.out.below HB5.out).at HB5.out.size, (HKH.out.below HB5.out).at HB5.out.size⟩
            have HRR : Hid (RangeAt W5 (.agg #[.slice a3 r.lo.length c3, .slice a4 r.hi.length c4, .bool r.all]) r) := HRA.out.here HB5.out
            obtain ⟨y0, y1, y2⟩ := HY5.out.cells
            obtain ⟨x0, x1, x2⟩ := HH5.out.cells
            go_wp2_with fail
            refine (meet_any HRR.out HRG.out).mono ?_
            rintro e wm ⟨v', rfl, hnr, hbm⟩
            have hlow : Below w.heap.size w wm := HBW.out.trans ((HB5.out.trans (hbm.mono HB5.out.size)).mono HBW.out.size)
            have HZM : Hid (Box wm (w.heap.size + 2) (.slice none 0 0) (.slice none 0 0) (.bool false)) := HZ5.out.here hbm
            obtain ⟨b1, d1, b2, d2, rfl, hbx, hnw, hlo⟩ := span_end (w := w) hnr HZM.out (by omega) (Nat.le_trans HBW.out.size HB5.out.size) hlow
            have HBX : Hid _ := hbx
            have HNW : Hid _ := hnw
            have HLO : Hid _ := hlo
            obtain ⟨q0, q1, q2⟩ := HZM.out.cells
            obtain ⟨p0, p1, p2⟩ := HZM.out.open
            clear hnr hbm hlow hbx hnw hlo y0 y1 y2 x0 x1 x2
            go_wp2
            exact bodyPost_ret (ret_box2 (u := .int .i64 0) rfl rfl rfl HBX.out) rfl ⟨_, by rw [HE.out]; rfl, by rw [HSR.out]; exact HNW.out, HLO.out⟩
          · have hhiz : ¬ (n : Int) < (L.length : Int) := by omega
            have HOWN : Hid (ownR (kd ps L) n = ⟨el.k, [], true⟩) := by
              have hkl : (kd ps L).ks.length = L.length := keysOf_length L
              unfold ownR
              rw [Hid, hkl, if_neg hhi, decide_eq_false hhi, if_pos hlo, HLK.out]
              rfl
            go_upto_region 8 with fail
            clear m0 m1
            have HRG : Hid (RangeAt W3 (.agg #[.slice al el.k.length cl, .slice none 0 0, .bool true]) (ownR (kd ps L) n)) := by
              rw [Hid, HOWN.out]
              exact ⟨_, _, rfl, (HKL.out.below HB3.out).at HB3.out.size, KeyAt.nil _⟩
            have HRR : Hid (RangeAt W3 (.agg #[.slice a3 r.lo.length c3, .slice a4 r.hi.length c4, .bool r.all]) r) := HRA.out.here HB3.out
            obtain ⟨y0, y1, y2⟩ := HY3.out.cells
            obtain ⟨x0, x1, x2⟩ := HH3.out.cells
            go_wp2_with fail
            refine (meet_any HRR.out HRG.out).mono ?_
            rintro e wm ⟨v', rfl, hnr, hbm⟩
            have hlow : Below w.heap.size w wm := HBW.out.trans ((HB3.out.trans (hbm.mono HB3.out.size)).mono HBW.out.size)
            have HZM : Hid (Box wm (w.heap.size + 2) (.slice none 0 0) (.slice none 0 0) (.bool false)) := HZ3.out.here hbm
            obtain ⟨b1, d1, b2, d2, rfl, hbx, hnw, hlo⟩ := span_end (w := w) hnr HZM.out (by omega) (Nat.le_trans HBW.out.size HB3.out.size) hlow
            have HBX : Hid _ := hbx
            have HNW : Hid _ := hnw
            have HLO : Hid _ := hlo
            obtain ⟨q0, q1, q2⟩ := HZM.out.cells
            obtain ⟨p0, p1, p2⟩ := HZM.out.open
            clear hnr hbm hlow hbx hnw hlo y0 y1 y2 x0 x1 x2
            go_wp2
            exact bodyPost_ret (ret_box2 (u := .int .i64 0) rfl rfl rfl HBX.out) rfl ⟨_, by rw [HE.out]; rfl, by rw [HSR.out]; exact HNW.out, HLO.out⟩
        · have hloz : ¬ (0 : Int) < (n : Int) := by omega
          obtain rfl : n = 0 := by omega
          by_cases hhi : 0 < L.length
          · have hhiz : (0 : Int) < (L.length : Int) := by omega
            obtain ⟨eh, heh⟩ : ∃ e, L[0]? = some e := ⟨_, List.getElem?_eq_getElem hhi⟩
            obtain ⟨gh, oh, _, e1, hch⟩ := (HKS.out.here HB2.out).cell 0 eh heh
            cases e1
            obtain ⟨ah, ch, eh2⟩ := (HKS.out.ok eh (List.mem_of_getElem? heh)).form
            have HKH : Hid (KeyIn W.heap.size W (.slice ah eh.k.length ch) eh.k) := by
              rw [← eh2]; exact HKS.out.ok eh (List.mem_of_getElem? heh)
            rw [eh2] at hch
            simp only [Nat.add_zero] at hch
            have HOWN : Hid (ownR (kd ps L) 0 = ⟨[], eh.k, false⟩) := by
              have hkl : (kd ps L).ks.length = L.length := keysOf_length L
              have hk : (kd ps L).ks[0]? = some eh.k := keysOf_get heh
              unfold ownR
              rw [Hid, hkl, if_pos hhi, hk, decide_eq_true hhi, if_neg hlo]
              rfl
            obtain ⟨x0, x1, x2⟩ := HH2.out.cells
            obtain ⟨f0, f1, f2⟩ := HH2.out.open
            clear eh2 heh
            go_upto_region 8 with fail
            obtain ⟨W5, hW5⟩ : ∃ W5, W5 = (W2.setCell ⟨w1.heap.size, 1, none⟩ (.slice ah eh.k.length ch)).setCell ⟨w1.heap.size, 2, none⟩ (.bool false) := ⟨_, rfl⟩
            rw [← hW5]
            have HK5 : Hid (Keep 47 W.heap.size W2 W5) := by
              rw [hW5]
              exact (keep_set HH2.out.row HWF.out _).trans (keep_set (HH2.out.set1 _).row HWF.out _)
            have HB5 : Hid (Below W.heap.size W W5) := HB2.out.trans HK5.out.low
            have HY5 : Hid (Box W5 (w.heap.size + 1) (.slice a3 r.lo.length c3) (.slice a4 r.hi.length c4) (.bool r.all)) := by
              have := HFAR.out
              rw [hW5]; exact (HY2.out.other _ (by omega)).other _ (by omega)
            have HZ5 : Hid (Box W5 (w.heap.size + 2) (.slice none 0 0) (.slice none 0 0) (.bool false)) := by
              have := HFAR.out
              rw [hW5]; exact (HZ2.out.other _ (by omega)).other _ (by omega)
            have HH5 : Hid (Box W5 w1.heap.size (.slice none 0 0) (.slice ah eh.k.length ch) (.bool false)) := by rw [hW5]; exact (HH2.out.set1 _).set2 _
            clear hW5 x0 x1 x2 f0 f1 f2 m0 m1 hch
            have HRG : Hid (RangeAt W5 (.agg #[.slice none 0 0, .slice ah eh.k.length ch, .bool false]) (ownR (kd ps L) 0)) := by
              rw [Hid, HOWN.out]
              exact ⟨_, _, rfl, KeyAt.nil _, (HKH.out.below HB5.out).at HB5.out.size⟩
            have HRR : Hid (RangeAt W5 (.agg #[.slice a3 r.lo.length c3, .slice a4 r.hi.length c4, .bool r.all]) r) := HRA.out.here HB5.out
            obtain ⟨y0, y1, y2⟩ := HY5.out.cells
            obtain ⟨x0, x1, x2⟩ := HH5.out.cells
            go_wp2_with fail
            refine (meet_any HRR.out HRG.out).mono ?_
            rintro e wm ⟨v', rfl, hnr, hbm⟩
            have hlow : Below w.heap.size w wm := HBW.out.trans ((HB5.out.trans (hbm.mono HB5.out.size)).mono HBW.out.size)
            have HZM : Hid (Box wm (w.heap.size + 2) (.slice none 0 0) (.slice none 0 0) (.bool false)) := HZ5.out.here hbm
            obtain ⟨b1, d1, b2, d2, rfl, hbx, hnw, hlo⟩ := span_end (w := w) hnr HZM.out (by omega) (Nat.le_trans HBW.out.size HB5.out.size) hlow
            have HBX : Hid _ := hbx
            have HNW : Hid _ := hnw
            have HLO : Hid _ := hlo
            obtain ⟨q0, q1, q2⟩ := HZM.out.cells
            obtain ⟨p0, p1, p2⟩ := HZM.out.open
            clear hnr hbm hlow hbx hnw hlo y0 y1 y2 x0 x1 x2
            go_wp2
            exact bodyPost_ret (ret_box2 (u := .int .i64 0) rfl rfl rfl HBX.out) rfl ⟨_, by rw [HE.out]; rfl, by rw [HSR.out]; exact HNW.out, HLO.out⟩
          · have hhiz : ¬ (0 : Int) < (L.length : Int) := by omega
            have HOWN : Hid (ownR (kd ps L) 0 = ⟨[], [], true⟩) := by
              have hkl : (kd ps L).ks.length = L.length := keysOf_length L
              unfold ownR
              rw [Hid, hkl, if_neg hhi, decide_eq_false hhi, if_neg hlo]
              rfl
            go_upto_region 8 with fail
            clear m0 m1
            have HRG : Hid (RangeAt W2 (.agg #[.slice none 0 0, .slice none 0 0, .bool true]) (ownR (kd ps L) 0)) := by
              rw [Hid, HOWN.out]
              exact ⟨_, _, rfl, KeyAt.nil _, KeyAt.nil _⟩
            have HRR : Hid (RangeAt W2 (.agg #[.slice a3 r.lo.length c3, .slice a4 r.hi.length c4, .bool r.all]) r) := HRA.out.here HB2.out
            obtain ⟨y0, y1, y2⟩ := HY2.out.cells
            obtain ⟨x0, x1, x2⟩ := HH2.out.cells
            go_wp2_with fail
            refine (meet_any HRR.out HRG.out).mono ?_
            rintro e wm ⟨v', rfl, hnr, hbm⟩
            have hlow : Below w.heap.size w wm := HBW.out.trans ((HB2.out.trans (hbm.mono HB2.out.size)).mono HBW.out.size)
            have HZM : Hid (Box wm (w.heap.size + 2) (.slice none 0 0) (.slice none 0 0) (.bool false)) := HZ2.out.here hbm
            obtain ⟨b1, d1, b2, d2, rfl, hbx, hnw, hlo⟩ := span_end (w := w) hnr HZM.out (by omega) (Nat.le_trans HBW.out.size HB2.out.size) hlow
            have HBX : Hid _ := hbx
            have HNW : Hid _ := hnw
            have HLO : Hid _ := hlo
            obtain ⟨q0, q1, q2⟩ := HZM.out.cells
            obtain ⟨p0, p1, p2⟩ := HZM.out.open
            clear hnr hbm hlow hbx hnw hlo y0 y1 y2 x0 x1 x2
            go_wp2
            exact bodyPost_ret (ret_box2 (u := .int .i64 0) rfl rfl rfl HBX.out) rfl ⟨_, by rw [HE.out]; rfl, by rw [HSR.out]; exact HNW.out, HLO.out⟩
end Go.Proofs.Ytaehchijeinloaa
