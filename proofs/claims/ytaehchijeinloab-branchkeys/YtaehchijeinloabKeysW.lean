/- BranchKeys's walk: a key is in one child's Span alone, the Spans cover the range. -/
import Derived.Test.YtaehchijeinloabAlive
import Derived.Test.YtaehchijeinloabR4Cover
import Derived.Test.YtaehchijeinloabR4Same
import Derived.Test.YtaehchijeinloabKeysP
namespace Go.Proofs.Ytaehchijeinloab
open Go.RowKit

/-- The law, while it goes through the children. -/
structure Spans (w2 : World) (d : Kd) (r : Rg) (i : Nat) (v : Value) (C : List It) (wr : World) : Prop where
  own : wr.ownsRow w2.heap.size 28 3 v C.length (flat C)
  is : C.map (·.r) = spansR d r i
  keys : ∀ e ∈ C, NewKey w2.heap.size wr e.v1 e.r.lo ∧ NewKey w2.heap.size wr e.v2 e.r.hi
  below : Below w2.heap.size w2 wr
theorem Spans.len {w2 wr : World} {d : Kd} {r : Rg} {i : Nat} {v : Value} {C : List It} (h : Spans w2 d r i v C wr) : C.length = i := by
  have := congrArg List.length h.is
  simpa [spansR] using this
theorem Spans.add {w2 wr w' : World} {d : Kd} {r : Rg} {i : Nat} {v v' y1 y2 : Value} {C : List It} (h : Spans w2 d r i v C wr) (own : w'.ownsRow w2.heap.size 28 3 v' (C.length + 1) (flat C ++ It.cells ⟨y1, y2, r.meet (ownR d i)⟩)) (hk : ∀ e ∈ C ++ [(⟨y1, y2, r.meet (ownR d i)⟩ : It)], NewKey w2.heap.size w' e.v1 e.r.lo ∧ NewKey w2.heap.size w' e.v2 e.r.hi) (hb : Below w2.heap.size wr w') : Spans w2 d r (i + 1) v' (C ++ [⟨y1, y2, r.meet (ownR d i)⟩]) w' := by
  refine ⟨?_, ?_, hk, h.below.trans hb⟩
  · rw [flat_append, List.length_append]
    simpa [flat] using own
  · rw [List.map_append, h.is]
    simp [spansR, List.range_succ]
theorem keys_ok {base : Nat} {w : World} {F : List It} (h : ∀ e ∈ F, NewKey base w e.v1 e.r.lo ∧ NewKey base w e.v2 e.r.hi) : ∀ e ∈ F, e.Ok w.heap.size w := fun e he => ⟨(h e he).1.at.in, (h e he).2.at.in⟩
/-- How many of the first i children have the key. -/
def countK (d : Kd) (r : Rg) (key : Key) (i : Nat) : Int := if r.has key && decide (childK d.ks key < i) then 1 else 0

set_option maxHeartbeats 6400000 in
set_option maxRecDepth 100000 in
theorem keys_walk {w : World} {v u vb : Value} {ps : List Int} {L : List Kc} {r : Rg} {key : Key} {z : Int} (_ : (Lit.int .i64 z).wf = true) (h : KidsAt w.heap.size w v ps L) (hu : RangeAt w u r) (hb : KeyAt w vb key) :
    Calls Try.prog 3 #[.int .i64 z, v, u, vb] w fun e w' => e = .returned (.bool true) ∧ Below w.heap.size w w' := by
  obtain ⟨i0, hi, hz0, hz1, hz2⟩ := info36'
  obtain ⟨vp, vk, rfl, h1, h2⟩ := h.is
  obtain ⟨a1, c1, rfl⟩ := h1.form
  obtain ⟨a2, c2, rfl⟩ := h2.form
  obtain ⟨u1, u2, rfl, h3, h4⟩ := hu.is
  obtain ⟨a3, c3, rfl, _⟩ := h3.is
  obtain ⟨a4, c4, rfl, _⟩ := h4.is
  obtain ⟨ab, cb, rfl⟩ := hb.in.form
  obtain ⟨W, hW⟩ : ∃ W, W = (w.alloc (.cells #[.slice a1 ps.length c1, .slice a2 L.length c2] 25)).alloc (.cells #[.slice a3 r.lo.length c3, .slice a4 r.hi.length c4, .bool r.all] 28) := ⟨_, rfl⟩
  have HBW0 : Hid (Below w.heap.size w W) := by rw [hW]; exact (below_new w _).alloc (by simp) _
  have HX : Hid (KBox W w.heap.size (.slice a1 ps.length c1) (.slice a2 L.length c2)) := by
    rw [hW]; exact (KBox.new w _ _).here (below_new _ _)
  have HY : Hid (Box W (w.heap.size + 1) (.slice a3 r.lo.length c3) (.slice a4 r.hi.length c4) (.bool r.all)) := by
    rw [hW]
    have := Box.new (w.alloc (.cells #[.slice a1 ps.length c1, .slice a2 L.length c2] 25)) (.slice a3 r.lo.length c3) (.slice a4 r.hi.length c4) (.bool r.all)
    show Box _ _ _ _ _
    simpa using this
  have HKI : Hid (∀ W', Below W.heap.size W W' → KidsAt W'.heap.size W' (.agg #[.slice a1 ps.length c1, .slice a2 L.length c2]) ps L) := fun W' hb => (KidsAt.here ⟨_, _, rfl, h1, h2⟩ HBW0.out).here hb
  have HRI : Hid (∀ W', Below W.heap.size W W' → RangeAt W' (.agg #[.slice a3 r.lo.length c3, .slice a4 r.hi.length c4, .bool r.all]) r) := fun W' h => (hu.here HBW0.out).here h
  have HKB : Hid (∀ W', Below W.heap.size W W' → KeyAt W' (.slice ab key.length cb) key) := fun W' h => (hb.here HBW0.out).here h
  clear h h1 h2 hb hu h3 h4
  go_enter Try.func3, Try.ntmps3
  go_wp2_with fail
  rw [← hW]
  clear hW
  refine (alive_any W).mono ?_
  rintro e w1 ⟨rfl, hb1⟩
  have HB1 : Hid (Below W.heap.size W w1) := hb1
  have HC := check_any (z := z) (HKI.out w1 hb1)
  obtain ⟨x0, x1⟩ := (HX.out.here hb1).cells
  clear hb1
  go_wp2_with fail
  by_cases hck : checkK z (kd ps L) = 0
  · rw [hck] at HC
    refine HC.mono ?_
    rintro e w2 ⟨rfl, hb2⟩
    have HB2 : Hid (Below W.heap.size W w2) := HB1.out.trans (hb2.mono HB1.out.size)
    have hlp : ps.length < 1024 := (check_small hck).1
    have hfit := (checkK_ok hck).2.2.1
    have hkl : (kd ps L).ks.length + 1 = ps.length := (fit_iff.1 hfit).2
    have HFIT : Hid ((kd ps L).fit = true) := hfit
    have HRS : Hid (riseK (kd ps L).ks = true) := (checkK_ok hck).2.2.2.2.2.1
    have HKL : Hid ((kd ps L).ks.length + 1 = ps.length) := hkl
    clear hb2 HC x0 x1 hfit hkl hck
    obtain ⟨x0, x1⟩ := (HX.out.here HB2.out).cells
    go_wp2
    clear x0 x1
    go_loopw [10, 11, 12] (fun s10 s11 s12 wr => ∃ (i : Nat) (C : List It), s12 = .int .i64 i ∧ i ≤ ps.length ∧ s11 = .int .i64 (countK (kd ps L) r key i) ∧ Spans w2 (kd ps L) r i s10 C wr) (fun _ _ s12 _ => ps.length - (intOf s12).toNat)
    case atStart => exact ⟨0, [], rfl, Nat.zero_le _, by simp [countK], World.ownsRow_nil _ _ _ _, rfl, fun e he => by simp at he, Below.refl _ _⟩
    case round =>
      obtain ⟨i, C, rfl, hip, rfl, hgo⟩ := hrel
      have HGO : Hid (Spans w2 (kd ps L) r i u10 C wr) := hgo
      have hlc1 : C.length ≤ i := Nat.le_of_eq hgo.len
      have hs1 : w2.heap.size ≤ wr.heap.size := hgo.below.size
      have HBR : Hid (Below W.heap.size W wr) := HB2.out.trans (hgo.below.mono HB2.out.size)
      obtain ⟨a5, c5, rfl⟩ : ∃ a5 c5, u10 = .slice a5 C.length c5 := by
        rcases own_row hgo.own with ⟨rfl, rfl⟩ | ⟨g, cc, rfl, _⟩
        · exact ⟨_, _, rfl⟩
        · exact ⟨_, _, rfl⟩
      clear hgo
      obtain ⟨x0, x1⟩ := (HX.out.here HBR.out).cells
      obtain ⟨y0, y1, y2⟩ := (HY.out.here HBR.out).cells
      by_cases hlt : i < ps.length
      · have hltz : (i : Int) < (ps.length : Int) := by omega
        have HOWN2 : Hid (∀ (W : World), Below wr.heap.size wr W → ∀ o : Obj, (W.alloc o).ownsRow w2.heap.size 28 3 (.slice a5 C.length c5) C.length (flat C)) := by
          intro W hW o
          have hb : Below wr.heap.size wr (W.alloc o) := hW.alloc hW.size o
          exact own_same HGO.out.own fun b _ hl => hb.block b hl
        have HGROW : Hid (∀ (W : World) (o : Obj) (w' : World), Below wr.heap.size wr W → (W.alloc o).grownBy w' (Value.slice a5 C.length c5).ownBlock → Below w2.heap.size wr w') := by
          intro W o w' hW hg
          have hb : Below wr.heap.size wr (W.alloc o) := hW.alloc hW.size o
          exact (hb.mono hs1).grown hg (Nat.le_trans hs1 hb.size) (fun k hk => (own_type HGO.out.own k hk).2.1)
        have hE : spanE (kd ps L) i = 0 := by unfold spanE; rw [if_pos ⟨HFIT.out, by omega, by show (i : Int) < (ps.length : Nat); omega⟩]
        have hR : spanR (kd ps L) r i = (r.meet (ownR (kd ps L) i)) := by unfold spanR; rw [hE]; rfl
        have HSP := span_any (i := (i : Int)) (HKI.out wr HBR.out) (HRI.out wr HBR.out) (by
          have hmin : IntKind.i64.min = -9223372036854775808 := rfl
          have hmax : IntKind.i64.max = 9223372036854775807 := rfl
          simp only [Lit.wf, hmin, hmax, Bool.and_eq_true, decide_eq_true_eq]
          omega)
        rw [hE, hR] at HSP
        clear hE hR
        go_wp2_with fail
        refine HSP.mono ?_
        rintro e w3 ⟨sv, rfl, hn, hb3⟩
        obtain ⟨m1, m2, m3, m4, rfl⟩ := hn.slices
        obtain ⟨V3, hV3⟩ : ∃ V3, V3 = w3.alloc (.cells #[.slice m1 (r.meet (ownR (kd ps L) i)).lo.length m2, .slice m3 (r.meet (ownR (kd ps L) i)).hi.length m4, .bool (r.meet (ownR (kd ps L) i)).all] 28) := ⟨_, rfl⟩
        have hbV : Below w3.heap.size w3 V3 := by rw [hV3]; exact below_new _ _
        have HN : Hid (NewRange wr.heap.size V3 (.agg #[.slice m1 (r.meet (ownR (kd ps L) i)).lo.length m2, .slice m3 (r.meet (ownR (kd ps L) i)).hi.length m4, .bool (r.meet (ownR (kd ps L) i)).all]) (r.meet (ownR (kd ps L) i))) := hn.here hbV
        have hb3' : Below wr.heap.size wr V3 := hb3.trans (hbV.mono hb3.size)
        have HBV : Hid (Below wr.heap.size wr V3) := hb3'
        have HXB : Hid (Box V3 w3.heap.size (.slice m1 (r.meet (ownR (kd ps L) i)).lo.length m2) (.slice m3 (r.meet (ownR (kd ps L) i)).hi.length m4) (.bool (r.meet (ownR (kd ps L) i)).all)) := by rw [hV3]; exact Box.new _ _ _ _
        have HONE : Hid (∀ u ∈ It.cells ⟨.slice m1 (r.meet (ownR (kd ps L) i)).lo.length m2, .slice m3 (r.meet (ownR (kd ps L) i)).hi.length m4, (r.meet (ownR (kd ps L) i))⟩, u.oneCell' = true) := fun u hu => by
          simp only [It.cells, List.mem_cons, List.not_mem_nil, or_false] at hu
          rcases hu with rfl | rfl | rfl <;> rfl
        have HHA := refHas_any HN.out.at (HKB.out V3 (HBR.out.trans (hb3'.mono HBR.out.size)))
        obtain ⟨g0, g1, g2⟩ := HXB.out.cells
        clear hn hb3 hbV hb3' HSP x0 x1 y0 y1 y2
        go_upto_region 10 with fail
        rw [← hV3]
        clear hV3
        go_wp2_with fail
        refine HHA.mono ?_
        rintro e w4 ⟨rfl, hb4⟩
        have HB34 : Hid (Below V3.heap.size V3 w4) := hb4
        have HBW : Hid (Below wr.heap.size wr w4) := HBV.out.trans (hb4.mono HBV.out.size)
        have HHAS : Hid ((r.meet (ownR (kd ps L) i)).has key = (r.has key && decide (childK (kd ps L).ks key = i))) := by
          rw [Hid, Rg.has_meet, own_has HRS.out (by have := HKL.out; omega)]
        clear hb4 HHA g0 g1 g2
        cases hh : (r.meet (ownR (kd ps L) i)).has key with
        | true =>
          have hrk0 : r.has key = true ∧ childK (kd ps L).ks key = i := by
            have := HHAS.out
            rw [hh] at this
            simpa using this.symm
          have HRK : Hid (r.has key = true ∧ childK (kd ps L).ks key = i) := hrk0
          clear hrk0
          have hc0 : countK (kd ps L) r key i = 0 := by simp [countK, HRK.out.2]
          have HC1 : Hid (countK (kd ps L) r key (i + 1) = 1) := by simp [Hid, countK, HRK.out.1, HRK.out.2]
          have HCH := child_any (HKI.out w4 (HBR.out.trans (HBW.out.mono HBR.out.size))) (HKB.out w4 (HBR.out.trans (HBW.out.mono HBR.out.size)))
          rw [show childK (keysOf L) key = i from HRK.out.2] at HCH
          obtain ⟨x0, x1⟩ := (HX.out.here (HBR.out.trans (HBW.out.mono HBR.out.size))).cells
          rw [hc0]
          clear hh hc0
          go_wp2_with fail
          refine HCH.mono ?_
          rintro e w5 ⟨rfl, hb5⟩
          have HB3W : Hid (Below V3.heap.size V3 w5) := HB34.out.trans (hb5.mono HB34.out.size)
          have HBW : Hid (Below wr.heap.size wr w5) := HBV.out.trans (HB3W.out.mono HBV.out.size)
          obtain ⟨g0, g1, g2⟩ := (HXB.out.here HB3W.out).cells
          clear hb5 HCH x0 x1
          have hs5 : w2.heap.size ≤ w5.heap.size := Nat.le_trans hs1 HBW.out.size
          have HOA : Hid _ := HOWN2.out w5 HBW.out
          go_wp2_with (at_builtin
                       refine wpList_append_own _ rfl _ _ 32 rfl w2.heap.size 28 i0 (.agg #[.slice none 0 0, .slice none 0 0, .bool false]) 3 56 Try.underlying32 hi hz0 hz1 hz2 rfl (by decide) _ C.length (flat C) rfl (HOA.out _) ⟨w5.heap.size, 0, none⟩ 1 1 (It.cells ⟨.slice m1 (r.meet (ownR (kd ps L) i)).lo.length m2, .slice m3 (r.meet (ownR (kd ps L) i)).hi.length m4, (r.meet (ownR (kd ps L) i))⟩) rfl rfl (one_cell w5 ⟨.slice m1 (r.meet (ownR (kd ps L) i)).lo.length m2, .slice m3 (r.meet (ownR (kd ps L) i)).hi.length m4, (r.meet (ownR (kd ps L) i))⟩) HONE.out (by unfold maxLen; omega) (by omega) (by simp; omega) ?_
                       intro v' w' hown hgr hiff
                       have HOW : Hid (w'.ownsRow w2.heap.size 28 3 v' (C.length + 1) (flat C ++ It.cells ⟨.slice m1 (r.meet (ownR (kd ps L) i)).lo.length m2, .slice m3 (r.meet (ownR (kd ps L) i)).hi.length m4, (r.meet (ownR (kd ps L) i))⟩)) := hown
                       have HGR : Hid _ := hgr
                       clear hown hgr hiff)
          have hb' : Below w2.heap.size wr w' := HGROW.out w5 _ w' HBW.out HGR.out
          have hown5 := HOA.out (.cells #[.slice m1 (r.meet (ownR (kd ps L) i)).lo.length m2, .slice m3 (r.meet (ownR (kd ps L) i)).hi.length m4, .bool (r.meet (ownR (kd ps L) i)).all] 28)
          refine ⟨⟨i + 1, C ++ [⟨.slice m1 (r.meet (ownR (kd ps L) i)).lo.length m2, .slice m3 (r.meet (ownR (kd ps L) i)).hi.length m4, (r.meet (ownR (kd ps L) i))⟩], by go_num, by omega, by rw [HC1.out], HGO.out.add HOW.out (fun e he => ?_) hb'⟩, by simp [intOf]; omega⟩
          rcases List.mem_append.1 he with h' | h'
          · have hk := HGO.out.keys e h'
            exact ⟨(hk.1.here (HBW.out.alloc HBW.out.size _)).grown HGR.out hown5, (hk.2.here (HBW.out.alloc HBW.out.size _)).grown HGR.out hown5⟩
          · simp only [List.mem_cons, List.not_mem_nil, or_false] at h'
            rw [h']
            obtain ⟨_, _, e9, n1, n2, _⟩ := HN.out.is
            cases e9
            exact ⟨(((n1.mono hs1).here HB3W.out).here (below_new _ _)).grown HGR.out hown5, (((n2.mono hs1).here HB3W.out).here (below_new _ _)).grown HGR.out hown5⟩
        | false =>
          have HC1 : Hid (countK (kd ps L) r key (i + 1) = countK (kd ps L) r key i) := by
            have h0 := HHAS.out
            rw [hh] at h0
            unfold countK
            rw [Hid]
            cases hrk : r.has key with
            | false => simp
            | true =>
              rw [hrk] at h0
              have hne : ¬ childK (kd ps L).ks key = i := by simpa using h0.symm
              have he : (childK (kd ps L).ks key < i + 1) = (childK (kd ps L).ks key < i) := by rw [eq_iff_iff]; omega
              simp only [he]
          have HB3W : Hid (Below V3.heap.size V3 w4) := HB34.out
          obtain ⟨g0, g1, g2⟩ := (HXB.out.here HB3W.out).cells
          generalize hcn : countK (kd ps L) r key i = cn at *
          clear hh hcn
          have hs5 : w2.heap.size ≤ w4.heap.size := Nat.le_trans hs1 HBW.out.size
          have HOA : Hid _ := HOWN2.out w4 HBW.out
          go_wp2_with (at_builtin
                       refine wpList_append_own _ rfl _ _ 32 rfl w2.heap.size 28 i0 (.agg #[.slice none 0 0, .slice none 0 0, .bool false]) 3 56 Try.underlying32 hi hz0 hz1 hz2 rfl (by decide) _ C.length (flat C) rfl (HOA.out _) ⟨w4.heap.size, 0, none⟩ 1 1 (It.cells ⟨.slice m1 (r.meet (ownR (kd ps L) i)).lo.length m2, .slice m3 (r.meet (ownR (kd ps L) i)).hi.length m4, (r.meet (ownR (kd ps L) i))⟩) rfl rfl (one_cell w4 ⟨.slice m1 (r.meet (ownR (kd ps L) i)).lo.length m2, .slice m3 (r.meet (ownR (kd ps L) i)).hi.length m4, (r.meet (ownR (kd ps L) i))⟩) HONE.out (by unfold maxLen; omega) (by omega) (by simp; omega) ?_
                       intro v' w' hown hgr hiff
                       have HOW : Hid (w'.ownsRow w2.heap.size 28 3 v' (C.length + 1) (flat C ++ It.cells ⟨.slice m1 (r.meet (ownR (kd ps L) i)).lo.length m2, .slice m3 (r.meet (ownR (kd ps L) i)).hi.length m4, (r.meet (ownR (kd ps L) i))⟩)) := hown
                       have HGR : Hid _ := hgr
                       clear hown hgr hiff)
          have hb' : Below w2.heap.size wr w' := HGROW.out w4 _ w' HBW.out HGR.out
          have hown5 := HOA.out (.cells #[.slice m1 (r.meet (ownR (kd ps L) i)).lo.length m2, .slice m3 (r.meet (ownR (kd ps L) i)).hi.length m4, .bool (r.meet (ownR (kd ps L) i)).all] 28)
          refine ⟨⟨i + 1, C ++ [⟨.slice m1 (r.meet (ownR (kd ps L) i)).lo.length m2, .slice m3 (r.meet (ownR (kd ps L) i)).hi.length m4, (r.meet (ownR (kd ps L) i))⟩], by go_num, by omega, by rw [HC1.out], HGO.out.add HOW.out (fun e he => ?_) hb'⟩, by simp [intOf]; omega⟩
          rcases List.mem_append.1 he with h' | h'
          · have hk := HGO.out.keys e h'
            exact ⟨(hk.1.here (HBW.out.alloc HBW.out.size _)).grown HGR.out hown5, (hk.2.here (HBW.out.alloc HBW.out.size _)).grown HGR.out hown5⟩
          · simp only [List.mem_cons, List.not_mem_nil, or_false] at h'
            rw [h']
            obtain ⟨_, _, e9, n1, n2, _⟩ := HN.out.is
            cases e9
            exact ⟨(((n1.mono hs1).here HB3W.out).here (below_new _ _)).grown HGR.out hown5, (((n2.mono hs1).here HB3W.out).here (below_new _ _)).grown HGR.out hown5⟩
      · have hltz : ¬ (i : Int) < (ps.length : Int) := by omega
        have hip' : i = ps.length := by omega
        have HCN : Hid (countK (kd ps L) r key i = if r.has key then 1 else 0) := by
          have h1 : childK (kd ps L).ks key ≤ (kd ps L).ks.length := List.findIdx_le_length
          have h2 := HKL.out
          rw [Hid, hip']
          simp [countK, show childK (kd ps L).ks key < ps.length by omega]
        have HCV : Hid (Rg.cover (C.map (·.r)) = Rg.cover [r]) := by
          rw [Hid, HGO.out.is, hip']
          exact spans_cover HRS.out HKL.out
        have HHA := refHas_any (HRI.out wr HBR.out) (HKB.out wr HBR.out)
        clear hip'
        go_wp2_with fail
        refine HHA.mono ?_
        rintro e w6 ⟨rfl, hb6⟩
        have HB6 : Hid (Below wr.heap.size wr w6) := hb6
        have HLI : ListAt w6.heap.size w6 (.slice a5 C.length c5) C := (own_list HGO.out.own (by omega) (keys_ok HGO.out.keys)).here hb6
        have HCO := refCover_any HLI
        clear hb6 HLI HHA x0 x1 y0 y1 y2
        go_wp2_with fail
        refine HCO.mono ?_
        rintro e w7 ⟨vF, F, rfl, hF, oF, kF, lF, hb7⟩
        have HF : Hid (F.map (·.r) = Rg.cover [r]) := by rw [Hid, hF, HCV.out]
        have HB7 : Hid (Below wr.heap.size wr w7) := HB6.out.trans (hb7.mono HB6.out.size)
        have HLF : Hid (ListAt w7.heap.size w7 vF F) := own_list oF (by omega) (keys_ok kF)
        obtain ⟨a6, c6, rfl, _⟩ := HLF.out.is
        have HBT : Hid (Below W.heap.size W w7) := HBR.out.trans (HB7.out.mono HBR.out.size)
        have HRT := HRI.out w7 HBT.out
        obtain ⟨y0, y1, y2⟩ := (HY.out.here HBT.out).cells
        clear hF oF kF hb7 HCO
        obtain ⟨W8, hW8⟩ : ∃ W8, W8 = w7.alloc (.cells #[.slice a3 r.lo.length c3, .slice a4 r.hi.length c4, .bool r.all] 28) := ⟨_, rfl⟩
        have hb8 : Below w7.heap.size w7 W8 := by rw [hW8]; exact below_new _ _
        have HB8 : Hid (Below w7.heap.size w7 W8) := hb8
        have hL8 : ListAt W8.heap.size W8 (.slice (some ⟨w7.heap.size, 0, none⟩) 1 1) [(⟨.slice a3 r.lo.length c3, .slice a4 r.hi.length c4, r⟩ : It)] := by
          have hR8 := (HRT.here hb8).in
          obtain ⟨t1, t2, e8, k1, k2⟩ := hR8.is
          cases e8
          refine ⟨⟨_, 1, rfl, Nat.le_refl _, (fun e => by cases e), fun j x hj => ⟨w7.heap.size, 0, rfl, by rw [hW8]; simp, ?_⟩⟩, by simp, fun e he => ?_⟩
          · rw [hW8, Nat.zero_add, row_cell (heap_alloc_last w7 _)]
            match j, hj with
            | 0, hj => simpa [flat, It.cells] using hj
            | 1, hj => simpa [flat, It.cells] using hj
            | 2, hj => simpa [flat, It.cells] using hj
            | j + 3, hj => simp [flat, It.cells] at hj
          · simp only [List.mem_cons, List.not_mem_nil, or_false] at he
            rw [he]
            exact ⟨k1, k2⟩
        have HCO := refCover_any hL8
        clear hL8 hb8 HRT
        go_wp2_with fail
        rw [← hW8]
        clear hW8
        refine HCO.mono ?_
        rintro e w9 ⟨vG, G, rfl, hG, oG, kG, lG, hb9⟩
        have HFG : Hid (G.map (·.r) = F.map (·.r)) := by rw [Hid, hG, HF.out]; rfl
        have hl : G.length = F.length := by simpa using congrArg List.length HFG.out
        have lG' : G.length ≤ 1 := lG
        have HLG : Hid (ListAt w9.heap.size w9 vG G) := own_list oG (by omega) (keys_ok kG)
        have HLF9 : Hid (ListAt w9.heap.size w9 (.slice a6 F.length c6) F) := (HLF.out.here HB8.out).here hb9
        have HB9 : Hid (Below w.heap.size w w9) := HBW0.out.trans ((HBT.out.trans ((HB8.out.trans (hb9.mono HB8.out.size)).mono HBT.out.size)).mono HBW0.out.size)
        obtain ⟨a7, c7, rfl, _⟩ := HLG.out.is
        have hlb : ((F.length : Int) == (G.length : Int)) = true := by rw [hl]; simp
        have hl1 : F.length ≤ G.length := Nat.le_of_eq hl.symm
        have hl2 : G.length ≤ F.length := Nat.le_of_eq hl
        clear hG oG kG hb9 HCO y0 y1 y2 hl
        go_wp2
        go_loopw [19, 20] (fun s19 s20 wr => s19 = .bool true ∧ ∃ j : Nat, s20 = .int .i64 j ∧ j ≤ F.length ∧ Below w9.heap.size w9 wr) (fun _ s20 _ => F.length - (intOf s20).toNat)
        case atStart => exact ⟨by first | rfl | simp, 0, rfl, Nat.zero_le _, Below.refl _ _⟩
        case round =>
          obtain ⟨rfl, j, rfl, hj, hbe⟩ := hrel
          have HBE : Hid (Below w9.heap.size w9 wr) := hbe
          clear hbe
          by_cases hjl : j < F.length
          · have hjz : (j : Int) < (F.length : Int) := by omega
            have hjg : (j : Int) < (G.length : Int) := by omega
            obtain ⟨x, hx⟩ : ∃ x, F[j]? = some x := ⟨_, List.getElem?_eq_getElem hjl⟩
            obtain ⟨y, hy⟩ : ∃ y, G[j]? = some y := ⟨_, List.getElem?_eq_getElem (by omega)⟩
            have hxy : y.r = x.r := by
              have := congrArg (·[j]?) HFG.out
              simp only [List.getElem?_map, hx, hy] at this
              simpa using this
            obtain ⟨g1, o1, rfl, _, x0, x1, x2⟩ := (HLF9.out.below HBE.out).at3 j x hx
            obtain ⟨g2, o2, rfl, _, y0, y1, y2⟩ := (HLG.out.below HBE.out).at3 j y hy
            have okx := (HLF9.out.ok x (List.mem_of_getElem? hx)).below HBE.out
            have oky := (HLG.out.ok y (List.mem_of_getElem? hy)).below HBE.out
            have HX1 : Hid (RangeAt wr x.val x.r) := okx.range.at HBE.out.size
            have HY1 : Hid (RangeAt wr y.val x.r) := by rw [Hid, ← hxy]; exact oky.range.at HBE.out.size
            obtain ⟨t1, t2, xr⟩ := x
            obtain ⟨s1, s2, yr⟩ := y
            obtain ⟨p1, q1, e1⟩ := okx.lo.form
            obtain ⟨p2, q2, e2⟩ := okx.hi.form
            obtain ⟨p3, q3, e3⟩ := oky.lo.form
            obtain ⟨p4, q4, e4⟩ := oky.hi.form
            simp only at hxy e1 e2 e3 e4 x0 x1 x2 y0 y1 y2
            subst e1 e2 e3 e4 hxy
            have HSR : Hid _ := sameRange_any (HX1.out.here ((Below.refl _ wr).drew)) (HY1.out.here ((Below.refl _ wr).drew))
            rw [decide_eq_true rfl] at HSR
            simp only [It.val] at HSR
            have HXJ : Hid (F[j]? = some ⟨.slice p1 yr.lo.length q1, .slice p2 yr.hi.length q2, yr⟩) := hx
            have HYJ : Hid (G[j]? = some ⟨.slice p3 yr.lo.length q3, .slice p4 yr.hi.length q4, yr⟩) := hy
            clear hx hy okx oky
            go_wp2_with fail
            go_region_held_law (fun W' => W'.cell? ⟨g1, o1 + j * 3, none⟩ = some (.slice p1 yr.lo.length q1) ∧ W'.cell? ⟨g1, o1 + j * 3 + 1, none⟩ = some (.slice p2 yr.hi.length q2) ∧ W'.cell? ⟨g1, o1 + j * 3 + 2, none⟩ = some (.bool yr.all) ∧ W'.cell? ⟨g2, o2 + j * 3, none⟩ = some (.slice p3 yr.lo.length q3) ∧ W'.cell? ⟨g2, o2 + j * 3 + 1, none⟩ = some (.slice p4 yr.hi.length q4) ∧ W'.cell? ⟨g2, o2 + j * 3 + 2, none⟩ = some (.bool yr.all)) (first | (refine ⟨?_, ?_, ?_, ?_, ?_, ?_⟩ <;> with_reducible assumption) | (go_keep; done))
              (first
                | (go_at_call 12; refine Calls.mono HSR.out ?_
                   rintro e w10 ⟨rfl, hb10⟩
                   have HBF : Hid (Below wr.heap.size wr w10) := ((Below.refl _ wr).drew).trans hb10
                   clear hb10
                   obtain ⟨_, _, e9, _, x0', x1', x2'⟩ := ((HLF9.out.below HBE.out).below (HBF.out.mono HBE.out.size)).at3 j _ HXJ.out
                   cases e9
                   obtain ⟨_, _, e9, _, y0', y1', y2'⟩ := ((HLG.out.below HBE.out).below (HBF.out.mono HBE.out.size)).at3 j _ HYJ.out
                   cases e9
                   simp only at x0' x1' x2' y0' y1' y2'))
            go_wp2
            exact ⟨⟨rfl, j + 1, by go_num, by omega, HBE.out.trans (HBF.out.mono HBE.out.size)⟩, by simp [intOf]; omega⟩
          · have hjz : ¬ (j : Int) < (F.length : Int) := by omega
            cases hrk : r.has key
            all_goals
              have hcn := HCN.out
              rw [hrk] at hcn
              simp only [Bool.false_eq_true, if_true, if_false] at hcn
              try rw [hcn]
              clear hcn
              go_wp2
              go_ret
              exact ⟨rfl, HB9.out.trans (HBE.out.mono HB9.out.size)⟩
  · refine HC.mono ?_
    rintro e w2 ⟨rfl, hb2⟩
    have hckz : (((checkK z (kd ps L) : Nat) : Int) != 0) = true := by simp; omega
    have HB2 : Hid (Below W.heap.size W w2) := HB1.out.trans (hb2.mono HB1.out.size)
    clear hb2 HC
    go_wp2
    go_ret
    exact ⟨rfl, HBW0.out.trans (HB2.out.mono HBW0.out.size)⟩
end Go.Proofs.Ytaehchijeinloab
