/- cutTo: a message cut to a range. -/
import Derived.Test.YtkjjgbaoicjbaabCopied
import Derived.Test.YtkjjgbaoicjbaabSettle
import Derived.Test.YtkjjgbaoicjbaabMinus
namespace Go.Proofs.Ytkjjgbaoicjbaab
open Go.RowKit

theorem ret_msg2 {fn : Func} {p q : Tmp} (h : fn.results = #[.cell p 38, .tmp q]) {tmps : Array Value} {w : World} {b : Nat} {e : Mt} {u : Value} (hp : tmps.getD p undef = .pointer (some ⟨b, 0, none⟩)) (hq : tmps.getD q undef = u) (hB : MBox w b e) :
    (results fn tmps).run Try.prog w = .ok (.tuple #[e.val, u]) w := by
  have e1 := run_loadVar_row (P := Try.prog) w b 38 38 _ (0, 0) _ hB.row Try.underlying38 rfl infoMs
  have hp' : tmps[p]?.getD undef = .pointer (some ⟨b, 0, none⟩) := by simpa using hp
  have hq' : tmps[q]?.getD undef = u := by simpa using hq
  simp [results, h, hp', hq', asAddr, e1, Mt.val]
/-- What cutTo gives. -/
structure CutPost (w : World) (m : Ms) (r : Rg) (e : Ending) (w' : World) : Prop where
  is : ∃ y : Mt, e = .returned (.tuple #[y.val, .bool (cutM r m).isSome]) ∧ (∀ m', cutM r m = some m' → y.m = m' ∧ NewMsg w.heap.size w' y) ∧ (cutM r m = none → y = zeroM) ∧ Below w.heap.size w w'
theorem cut_none {w w' : World} {m : Ms} {r : Rg} (hc : cutM r m = none) (hb : Below w.heap.size w w') : CutPost w m r (.returned (.tuple #[zeroM.val, .bool false])) w' :=
  ⟨zeroM, by rw [hc]; rfl, fun m' h => (by rw [hc] at h; cases h), fun _ => rfl, hb⟩
theorem cut_some {w w' : World} {m : Ms} {r : Rg} {y : Mt} (hc : cutM r m = some y.m) (hn : NewMsg w.heap.size w' y) (hb : Below w.heap.size w w') : CutPost w m r (.returned (.tuple #[y.val, .bool true])) w' :=
  ⟨y, by rw [hc]; rfl, fun m' h => (by rw [hc] at h; cases h; exact ⟨rfl, hn⟩), fun h => (by rw [hc] at h; cases h), hb⟩
/-- What the region with Meet leaves. -/
structure CutEnd (W wx : World) (s : Value) (r : Rg) : Prop where
  is : ∃ b x y, s = .pointer (some ⟨b, 0, none⟩) ∧ Box wx b x y (.bool r.all) ∧ NewRange W.heap.size wx (.agg #[x, y, .bool r.all]) r ∧ Below W.heap.size W wx
theorem cut_alloc {W w3 : World} {base : Nat} {x y z : Value} {r : Rg} (hn : NewRange base w3 (.agg #[x, y, z]) r) (hB : W.heap.size ≤ base) (hb : Below W.heap.size W w3) : CutEnd W (w3.alloc (.cells #[x, y, z] 25)) (.pointer (some ⟨w3.heap.size, 0, none⟩)) r := by
  obtain ⟨v1, v2, e, h1, h2, h3⟩ := hn.is
  cases e
  exact ⟨_, _, _, rfl, Box.new w3 _ _ _, ⟨_, _, rfl, (h1.here (below_new _ _)).mono hB, (h2.here (below_new _ _)).mono hB, h3⟩, hb.alloc hb.size _⟩
theorem cut_set {W w3 : World} {base b : Nat} {x y z p q s : Value} {r : Rg} (hn : NewRange base w3 (.agg #[x, y, z]) r) (hB : W.heap.size ≤ base) (hx : Box w3 b p q s) (hW : W.heap.size ≤ b) (hb : Below W.heap.size W w3) : CutEnd W (((w3.setCell ⟨b, 0, none⟩ x).setCell ⟨b, 1, none⟩ y).setCell ⟨b, 2, none⟩ z) (.pointer (some ⟨b, 0, none⟩)) r := by
  have h4 := hn.put3 (base' := W.heap.size) hx hB x y z
  obtain ⟨v1, v2, e, h1, h2, h3⟩ := hn.is
  cases e
  exact ⟨_, _, _, rfl, put3_box hx, h4, put3_below hb hW _ _ _⟩

theorem below_cellsC {B : Nat} {a w : World} (h : Below B a w) : ∀ b i, b < B → w.cell? ⟨b, i, none⟩ = a.cell? ⟨b, i, none⟩ := fun _ _ hb => h.cell hb
theorem below_frozenC {B : Nat} {a w : World} (h : Below B a w) : ∀ b i, b < B → w.frozen? ⟨b, i, none⟩ = a.frozen? ⟨b, i, none⟩ := fun b i hb => by
  simp only [World.frozen?, h.block b hb]

set_option maxHeartbeats 6400000 in
set_option maxRecDepth 100000 in
theorem cutTo_any {w : World} {x : Mt} {v : Value} {r : Rg} (h : x.Ok w.heap.size w) (hr : RangeAt w v r) :
    Calls Try.prog 28 #[x.val, v] w fun e w' => CutPost w x.m r e w' := by
  obtain ⟨v1, v2, v3, m⟩ := x
  obtain ⟨a1, c1, e1⟩ := h.lo.form
  obtain ⟨a2, c2, e2⟩ := h.hi.form
  obtain ⟨a3, c3, e3⟩ := h.va.form
  simp only at e1 e2 e3
  subst e1 e2 e3
  obtain ⟨u1, u2, rfl, hr1, hr2⟩ := hr.is
  obtain ⟨b1, d1, f1⟩ := hr1.in.form
  obtain ⟨b2, d2, f2⟩ := hr2.in.form
  subst f1 f2
  obtain ⟨W0, hW0⟩ : ∃ W0, W0 = w.alloc (.cells #[.int .u64 (m.st : Int), .int .i64 m.kd, .slice a1 m.lo.length c1, .slice a2 m.hi.length c2, .slice a3 m.va.length c3] 38) := ⟨_, rfl⟩
  obtain ⟨W1, hW1⟩ : ∃ W1, W1 = W0.alloc (.cells #[.slice b1 r.lo.length d1, .slice b2 r.hi.length d2, .bool r.all] 25) := ⟨_, rfl⟩
  obtain ⟨W, hW⟩ : ∃ W, W = W1.alloc (.cells #[.int .u64 0, .int .i64 0, .slice none 0 0, .slice none 0 0, .slice none 0 0] 38) := ⟨_, rfl⟩
  have hb0 : Below w.heap.size w W0 := by rw [hW0]; exact below_new _ _
  have hz0 : W0.heap.size = w.heap.size + 1 := by rw [hW0]; simp
  have hb1 : Below W0.heap.size W0 W1 := by rw [hW1]; exact below_new _ _
  have hz1 : W1.heap.size = w.heap.size + 1 + 1 := by rw [hW1]; simp [hz0]
  have hb2 : Below W1.heap.size W1 W := by rw [hW]; exact below_new _ _
  have HB01 : Hid (Below W0.heap.size W0 W) := hb1.trans (hb2.mono hb1.size)
  have HBW : Hid (Below w.heap.size w W) := hb0.trans (HB01.out.mono hb0.size)
  have HX : Hid (MBox W w.heap.size ⟨.slice a1 m.lo.length c1, .slice a2 m.hi.length c2, .slice a3 m.va.length c3, m⟩) := by
    have : MBox W0 w.heap.size ⟨.slice a1 m.lo.length c1, .slice a2 m.hi.length c2, .slice a3 m.va.length c3, m⟩ := by rw [hW0]; exact ⟨heap_alloc_last _ _⟩
    exact this.here HB01.out
  have HR : Hid (Box W (w.heap.size + 1) (.slice b1 r.lo.length d1) (.slice b2 r.hi.length d2) (.bool r.all)) := by
    have : Box W1 (w.heap.size + 1) (.slice b1 r.lo.length d1) (.slice b2 r.hi.length d2) (.bool r.all) := by rw [← hz0, hW1]; exact Box.new _ _ _ _
    exact this.here hb2
  have HZ : Hid (MBox W (w.heap.size + 1 + 1) zeroM) := by rw [← hz1, hW]; exact ⟨heap_alloc_last _ _⟩
  have HOK : Hid (∀ W', Below W.heap.size W W' → Mt.Ok W'.heap.size W' ⟨.slice a1 m.lo.length c1, .slice a2 m.hi.length c2, .slice a3 m.va.length c3, m⟩) := fun W' hb => (h.here HBW.out).here hb
  have HRA : Hid (∀ W', Below W.heap.size W W' → RangeAt W' (.agg #[.slice b1 r.lo.length d1, .slice b2 r.hi.length d2, .bool r.all]) r) := fun W' hb => (hr.here HBW.out).here hb
  have HDO := deedOf_any (HOK.out W (Below.refl _ _))
  have HLE : Hid (∀ W', Below W.heap.size W W' → Below w.heap.size w W') := fun W' hb => HBW.out.trans (hb.mono HBW.out.size)
  simp only [Mt.val] at HDO ⊢
  obtain ⟨x0, x1, x2, x3, x4⟩ := HX.out.cells
  simp only at x0 x1 x2 x3 x4
  have t1 := as_pp
  have t2 := as_pd
  have t3 := as_dp
  have t4 := as_dd
  have t5 := as_cp
  have t6 := as_cd
  have t7 := as_cc
  have t8 := as_ip
  have t9 := as_id
  have t10 := as_ic
  have HKI : Hid (∀ W', Below W.heap.size W W' → KeyIn w.heap.size W' (.slice a1 m.lo.length c1) m.lo ∧ KeyIn w.heap.size W' (.slice a2 m.hi.length c2) m.hi) := fun W' hb => ⟨h.lo.below (HLE.out W' hb), h.hi.below (HLE.out W' hb)⟩
  clear h hr hr1 hr2 hb0 hb1 hb2 HB01
  go_enter Try.func28, Try.ntmps28
  go_upto_region 1 with fail
  rw [← hW0, ← hW1, ← hW]
  clear hW hW1 hW0 hz0 hz1
  go_wp2_with fail
  refine HDO.mono ?_
  rintro e w1 ⟨rfl, hb1⟩
  have HB1 : Hid (Below W.heap.size W w1) := hb1
  clear hb1 HDO x0 x1 x2 x3 x4
  obtain ⟨x0, x1, x2, x3, x4⟩ := (HX.out.here HB1.out).cells
  obtain ⟨y0, y1, y2⟩ := (HR.out.here HB1.out).cells
  simp only at x0 x1 x2 x3 x4
  unfold deedV
  simp only
  by_cases k1 : m.kd = 1
  · rw [if_pos k1]
    have HCU : Hid (cutM r m = if r.has m.lo then some m else none) := by unfold Hid cutM; rw [if_pos (by omega)]
    have HHA := has_any (HRA.out w1 HB1.out) ((HOK.out w1 HB1.out).lo.at (Nat.le_refl _))
    simp only at HHA
    clear k1
    go_wp2_with fail
    refine HHA.mono ?_
    rintro e w2 ⟨rfl, hb2⟩
    have HB2 : Hid (Below W.heap.size W w2) := HB1.out.trans (hb2.mono HB1.out.size)
    clear hb2 HHA x0 x1 x2 x3 x4 y0 y1 y2
    obtain ⟨x0, x1, x2, x3, x4⟩ := (HX.out.here HB2.out).cells
    simp only at x0 x1 x2 x3 x4
    by_cases hh : r.has m.lo = true
    · have HCP := copied_any (HOK.out w2 HB2.out)
      simp only [Mt.val] at HCP
      have HCS : Hid (cutM r m = some m) := by rw [Hid, HCU.out, if_pos hh]
      rw [hh]
      clear hh HCU
      go_wp2_with fail
      refine HCP.mono ?_
      rintro e w3 ⟨⟨y1, y2, y3, ym⟩, rfl, hym, hn, hb3⟩
      simp only at hym
      subst hym
      obtain ⟨p1, q1, g1⟩ := hn.lo.in.form
      obtain ⟨p2, q2, g2⟩ := hn.hi.in.form
      obtain ⟨p3, q3, g3⟩ := hn.va.in.form
      simp only at g1 g2 g3
      subst g1 g2 g3
      have HB3 : Hid (Below W.heap.size W w3) := HB2.out.trans (hb3.mono HB2.out.size)
      have HN : Hid (NewMsg w.heap.size w3 ⟨.slice p1 ym.lo.length q1, .slice p2 ym.hi.length q2, .slice p3 ym.va.length q3, ym⟩) := hn.mono (HLE.out w2 HB2.out).size
      have HZ3 : Hid (MBox w3 (w.heap.size + 1 + 1) zeroM) := HZ.out.here HB3.out
      obtain ⟨k0, k1, k2, k3, k4⟩ := HZ3.out.cells
      have o0 := HZ3.out.open 0
      have o1 := HZ3.out.open 1
      have o2 := HZ3.out.open 2
      have o3 := HZ3.out.open 3
      have o4 := HZ3.out.open 4
      have hkp := put5_keep (B := w.heap.size) ⟨.slice p1 ym.lo.length q1, .slice p2 ym.hi.length q2, .slice p3 ym.va.length q3, ym⟩ HZ3.out (by omega)
      have HEN : Hid (CutPost w ym r (.returned (.tuple #[Mt.val ⟨.slice p1 ym.lo.length q1, .slice p2 ym.hi.length q2, .slice p3 ym.va.length q3, ym⟩, .bool true])) (put5 w3 (w.heap.size + 1 + 1) ⟨.slice p1 ym.lo.length q1, .slice p2 ym.hi.length q2, .slice p3 ym.va.length q3, ym⟩)) := cut_some HCS.out (HN.out.keep hkp (by decide)) ((HLE.out w3 HB3.out).trans hkp.low)
      clear hn hb3 hkp HCP
      simp only [Mt.val]
      go_wp2
      exact bodyPost_ret (ret_msg2 (u := .bool true) rfl rfl rfl (put5_box (e := ⟨.slice p1 ym.lo.length q1, .slice p2 ym.hi.length q2, .slice p3 ym.va.length q3, ym⟩) _ HZ3.out)) rfl HEN.out
    · have hh' : r.has m.lo = false := by simpa using hh
      have HCS : Hid (cutM r m = none) := by rw [Hid, HCU.out, if_neg hh]
      rw [hh']
      clear hh hh' HCU
      have HZ3 : Hid (MBox w2 (w.heap.size + 1 + 1) zeroM) := HZ.out.here HB2.out
      obtain ⟨k0, k1, k2, k3, k4⟩ := HZ3.out.cells
      have o0 := HZ3.out.open 0
      have o1 := HZ3.out.open 1
      have o2 := HZ3.out.open 2
      have o3 := HZ3.out.open 3
      have o4 := HZ3.out.open 4
      have hkp := put5_keep (B := w.heap.size) zeroM HZ3.out (by omega)
      have HEN : Hid (CutPost w m r (.returned (.tuple #[zeroM.val, .bool false])) (put5 w2 (w.heap.size + 1 + 1) zeroM)) := cut_none HCS.out ((HLE.out w2 HB2.out).trans hkp.low)
      clear hkp
      go_wp2
      exact bodyPost_ret (ret_msg2 (u := .bool false) rfl rfl rfl (put5_box (e := zeroM) _ HZ3.out)) rfl HEN.out
  · rw [if_neg k1]
    by_cases k2 : m.kd = 2
    · rw [if_pos k2]
      have HCU : Hid (cutM r m = if r.has m.lo then some m else none) := by unfold Hid cutM; rw [if_pos (by omega)]
      have HHA := has_any (HRA.out w1 HB1.out) ((HOK.out w1 HB1.out).lo.at (Nat.le_refl _))
      simp only at HHA
      clear k1 k2
      go_wp2_with fail
      refine HHA.mono ?_
      rintro e w2 ⟨rfl, hb2⟩
      have HB2 : Hid (Below W.heap.size W w2) := HB1.out.trans (hb2.mono HB1.out.size)
      clear hb2 HHA x0 x1 x2 x3 x4 y0 y1 y2
      obtain ⟨x0, x1, x2, x3, x4⟩ := (HX.out.here HB2.out).cells
      simp only at x0 x1 x2 x3 x4
      by_cases hh : r.has m.lo = true
      · have HCP := copied_any (HOK.out w2 HB2.out)
        simp only [Mt.val] at HCP
        have HCS : Hid (cutM r m = some m) := by rw [Hid, HCU.out, if_pos hh]
        rw [hh]
        clear hh HCU
        go_wp2_with fail
        refine HCP.mono ?_
        rintro e w3 ⟨⟨y1, y2, y3, ym⟩, rfl, hym, hn, hb3⟩
        simp only at hym
        subst hym
        obtain ⟨p1, q1, g1⟩ := hn.lo.in.form
        obtain ⟨p2, q2, g2⟩ := hn.hi.in.form
        obtain ⟨p3, q3, g3⟩ := hn.va.in.form
        simp only at g1 g2 g3
        subst g1 g2 g3
        have HB3 : Hid (Below W.heap.size W w3) := HB2.out.trans (hb3.mono HB2.out.size)
        have HN : Hid (NewMsg w.heap.size w3 ⟨.slice p1 ym.lo.length q1, .slice p2 ym.hi.length q2, .slice p3 ym.va.length q3, ym⟩) := hn.mono (HLE.out w2 HB2.out).size
        have HZ3 : Hid (MBox w3 (w.heap.size + 1 + 1) zeroM) := HZ.out.here HB3.out
        obtain ⟨k0, k1, k2, k3, k4⟩ := HZ3.out.cells
        have o0 := HZ3.out.open 0
        have o1 := HZ3.out.open 1
        have o2 := HZ3.out.open 2
        have o3 := HZ3.out.open 3
        have o4 := HZ3.out.open 4
        have hkp := put5_keep (B := w.heap.size) ⟨.slice p1 ym.lo.length q1, .slice p2 ym.hi.length q2, .slice p3 ym.va.length q3, ym⟩ HZ3.out (by omega)
        have HEN : Hid (CutPost w ym r (.returned (.tuple #[Mt.val ⟨.slice p1 ym.lo.length q1, .slice p2 ym.hi.length q2, .slice p3 ym.va.length q3, ym⟩, .bool true])) (put5 w3 (w.heap.size + 1 + 1) ⟨.slice p1 ym.lo.length q1, .slice p2 ym.hi.length q2, .slice p3 ym.va.length q3, ym⟩)) := cut_some HCS.out (HN.out.keep hkp (by decide)) ((HLE.out w3 HB3.out).trans hkp.low)
        clear hn hb3 hkp HCP
        simp only [Mt.val]
        go_wp2
        exact bodyPost_ret (ret_msg2 (u := .bool true) rfl rfl rfl (put5_box (e := ⟨.slice p1 ym.lo.length q1, .slice p2 ym.hi.length q2, .slice p3 ym.va.length q3, ym⟩) _ HZ3.out)) rfl HEN.out
      · have hh' : r.has m.lo = false := by simpa using hh
        have HCS : Hid (cutM r m = none) := by rw [Hid, HCU.out, if_neg hh]
        rw [hh']
        clear hh hh' HCU
        have HZ3 : Hid (MBox w2 (w.heap.size + 1 + 1) zeroM) := HZ.out.here HB2.out
        obtain ⟨k0, k1, k2, k3, k4⟩ := HZ3.out.cells
        have o0 := HZ3.out.open 0
        have o1 := HZ3.out.open 1
        have o2 := HZ3.out.open 2
        have o3 := HZ3.out.open 3
        have o4 := HZ3.out.open 4
        have hkp := put5_keep (B := w.heap.size) zeroM HZ3.out (by omega)
        have HEN : Hid (CutPost w m r (.returned (.tuple #[zeroM.val, .bool false])) (put5 w2 (w.heap.size + 1 + 1) zeroM)) := cut_none HCS.out ((HLE.out w2 HB2.out).trans hkp.low)
        clear hkp
        go_wp2
        exact bodyPost_ret (ret_msg2 (u := .bool false) rfl rfl rfl (put5_box (e := zeroM) _ HZ3.out)) rfl HEN.out
    · rw [if_neg k2]
      by_cases k3 : m.kd = 3
      · rw [if_pos k3]
        obtain ⟨R, hR⟩ : ∃ R, R = Rg.meet ⟨m.lo, m.hi, false⟩ r := ⟨_, rfl⟩
        have HCU : Hid (cutM r m = if R.empty then none else some ⟨m.st, m.kd, R.lo, R.hi, m.va⟩) := by
          unfold Hid cutM
          rw [if_neg (by omega), if_pos k3, show m.rg = ⟨m.lo, m.hi, false⟩ by unfold Ms.rg; rw [if_neg (by omega), if_pos k3], ← hR]
        obtain ⟨W2, hW2⟩ : ∃ W2, W2 = w1.alloc (.cells #[.slice a1 m.lo.length c1, .slice a2 m.hi.length c2] 80) := ⟨_, rfl⟩
        have hbw2 : Below w1.heap.size w1 W2 := by rw [hW2]; exact below_new _ _
        have HBW2 : Hid (Below W.heap.size W W2) := HB1.out.trans (hbw2.mono HB1.out.size)
        have hl2 : w1.heap.size < W2.heap.size := by rw [hW2]; simp
        have hrow : W2.heap[w1.heap.size]? = some (.cells #[.slice a1 m.lo.length c1, .slice a2 m.hi.length c2] 80 (0, 0)) := by rw [hW2]; exact heap_alloc_last _ _
        have HCC : Hid (∀ W', Below W2.heap.size W2 W' → W'.cell? ⟨w1.heap.size, 0, none⟩ = some (.slice a1 m.lo.length c1) ∧ W'.cell? ⟨w1.heap.size, 1, none⟩ = some (.slice a2 m.hi.length c2)) := fun W' hb => by
          have hrow' : W'.heap[w1.heap.size]? = some (.cells #[.slice a1 m.lo.length c1, .slice a2 m.hi.length c2] 80 (0, 0)) := by rw [hb.block _ hl2]; exact hrow
          exact ⟨by rw [row_cell hrow']; rfl, by rw [row_cell hrow']; rfl⟩
        have HRC : Hid (∀ W', Below W2.heap.size W2 W' → W'.cell? ⟨w.heap.size + 1, 0, none⟩ = some (.slice b1 r.lo.length d1) ∧ W'.cell? ⟨w.heap.size + 1, 1, none⟩ = some (.slice b2 r.hi.length d2) ∧ W'.cell? ⟨w.heap.size + 1, 2, none⟩ = some (.bool r.all)) := fun W' hb => ((HR.out.here HBW2.out).here hb).cells
        have HKE : Hid (∀ W', Below W2.heap.size W2 W' → Calls Try.prog 34 #[.agg #[.slice a1 m.lo.length c1, .slice a2 m.hi.length c2]] W' fun e w' => ∃ p1 q1 p2 q2, e = .returned (.agg #[.slice p1 m.lo.length q1, .slice p2 m.hi.length q2, .bool false]) ∧ KeyAt w' (.slice p1 m.lo.length q1) m.lo ∧ KeyAt w' (.slice p2 m.hi.length q2) m.hi ∧ Below W'.heap.size W' w' ∧ Below W2.heap.size W2 w') := fun W' hb => by
          have hbb := HBW2.out.trans (hb.mono HBW2.out.size)
          refine (cutKeys_any (base := w.heap.size) (HLE.out W' hbb).size (HKI.out W' hbb).1 (HKI.out W' hbb).2).mono ?_
          rintro e w' ⟨y1, y2, rfl, h1, h2, h3⟩
          have hs := Nat.le_trans (HLE.out W' hbb).size h3.size
          obtain ⟨p1, q1, g1⟩ := (h1.at hs).in.form
          obtain ⟨p2, q2, g2⟩ := (h2.at hs).in.form
          subst g1 g2
          exact ⟨p1, q1, p2, q2, rfl, h1.at hs, h2.at hs, h3, hb.trans (h3.mono hb.size)⟩
        have HME : Hid (∀ W' x y, KeyAt W' x m.lo → KeyAt W' y m.hi → Below W2.heap.size W2 W' → Calls Try.prog 46 #[.agg #[x, y, .bool false], .agg #[.slice b1 r.lo.length d1, .slice b2 r.hi.length d2, .bool r.all]] W' fun e w' => ∃ v', e = .returned v' ∧ NewRange W'.heap.size w' v' R ∧ Below W'.heap.size W' w' ∧ Below W2.heap.size W2 w') := fun W' x y hx hy hb => by
          have hbb := HBW2.out.trans (hb.mono HBW2.out.size)
          refine (meet_any (r := ⟨m.lo, m.hi, false⟩) ⟨_, _, rfl, hx, hy⟩ (HRA.out W' hbb)).mono ?_
          rintro e w' ⟨v', rfl, h1, h2⟩
          rw [hR]
          exact ⟨v', rfl, h1, h2, hb.trans (h2.mono hb.size)⟩
        obtain ⟨z0, z1⟩ := HCC.out W2 (Below.refl _ _)
        obtain ⟨r0, r1, r2⟩ := HRC.out W2 (Below.refl _ _)
        have hn1 := World.new_ne W2 _ z0
        have hn2 := World.new_ne W2 _ r0
        have za0 : ∀ o, (W2.alloc o).cell? ⟨w1.heap.size, 0, none⟩ = some (.slice a1 m.lo.length c1) := fun o => (HCC.out _ (below_new _ _)).1
        have za1 : ∀ o, (W2.alloc o).cell? ⟨w1.heap.size, 1, none⟩ = some (.slice a2 m.hi.length c2) := fun o => (HCC.out _ (below_new _ _)).2
        have ra0 : ∀ o, (W2.alloc o).cell? ⟨w.heap.size + 1, 0, none⟩ = some (.slice b1 r.lo.length d1) := fun o => (HRC.out _ (below_new _ _)).1
        have ra1 : ∀ o, (W2.alloc o).cell? ⟨w.heap.size + 1, 1, none⟩ = some (.slice b2 r.hi.length d2) := fun o => (HRC.out _ (below_new _ _)).2.1
        have ra2 : ∀ o, (W2.alloc o).cell? ⟨w.heap.size + 1, 2, none⟩ = some (.bool r.all) := fun o => (HRC.out _ (below_new _ _)).2.2
        clear k1 k2 k3 hbw2 hrow hR
        go_upto_region 8 with fail
        rw [← hW2]
        clear hW2 x0 x1 x2 x3 x4 y0 y1 y2
        go_cut [8] (fun s8 wx => CutEnd W2 wx s8 R)
        case first =>
          go_region_held_law (fun W' => W'.cell? ⟨w1.heap.size, 0, none⟩ = some (.slice a1 m.lo.length c1) ∧ W'.cell? ⟨w1.heap.size, 1, none⟩ = some (.slice a2 m.hi.length c2) ∧ W'.cell? ⟨w.heap.size + 1, 0, none⟩ = some (.slice b1 r.lo.length d1) ∧ W'.cell? ⟨w.heap.size + 1, 1, none⟩ = some (.slice b2 r.hi.length d2) ∧ W'.cell? ⟨w.heap.size + 1, 2, none⟩ = some (.bool r.all)) (first | go_keep | (refine ⟨?_, ?_, ?_, ?_, ?_⟩ <;> assumption))
            (first
              | (go_at_call 34
                 refine (HKE.out _ (by first | exact (Below.refl _ _).drew | exact Below.refl _ _ | exact (below_new _ _).drew | exact below_new _ _)).mono ?_
                 rintro e w3 ⟨p1, q1, p2, q2, rfl, hk1, hk2, hb3, hb3'⟩
                 have hc3 := below_cellsC hb3
                 have hf3 := below_frozenC hb3
                 try have hs3 : W2.heap.size < w3.heap.size := (by have := hb3.size; simp at this; omega)
                 have HB3 : Hid _ := hb3
                 have HK1 : Hid _ := hk1
                 have HK2 : Hid _ := hk2
                 have HBW3 : Hid (Below W2.heap.size W2 w3) := hb3'
                 obtain ⟨z0', z1'⟩ := HCC.out w3 hb3'
                 obtain ⟨r0', r1', r2'⟩ := HRC.out w3 hb3'
                 have hn3 := World.new_ne w3 _ z0'
                 have hn4 := World.new_ne w3 _ r0'
                 clear hk1 hk2 hb3 hb3')
              | (go_at_call 46
                 refine (HME.out _ _ _ (by first | exact HK1.out | exact HK1.out.here (below_new _ _)) (by first | exact HK2.out | exact HK2.out.here (below_new _ _)) (by first | exact HBW3.out | exact HBW3.out.alloc HBW3.out.size _)).mono ?_
                 rintro e w4 ⟨v4, rfl, hn4', hb4, hb4'⟩
                 obtain ⟨n1, m1, n2, m2, e4⟩ := hn4'.slices
                 subst e4
                 have hc4 := below_cellsC hb4
                 have hf4 := below_frozenC hb4
                 have HB4 : Hid _ := hb4
                 have HN4 : Hid _ := hn4'
                 have HBW4 : Hid (Below W2.heap.size W2 w4) := hb4'
                 obtain ⟨z0'', z1''⟩ := HCC.out w4 hb4'
                 obtain ⟨r0'', r1'', r2''⟩ := HRC.out w4 hb4'
                 clear hn4' hb4 hb4'))
          all_goals
            go_wp2_with fail
            go_meet
            first
              | exact cut_alloc HN4.out HBW3.out.size HBW4.out
              | exact cut_set HN4.out (by have := HBW3.out.size; simp; omega) ((Box.new w3 _ _ _).here HB4.out) HBW3.out.size HBW4.out
              | exact cut_set HN4.out HBW3.out.size (Box.here (w := w3) (Box.here (w := (W2.alloc (.cells #[.slice none 0 0, .slice none 0 0, .bool false] 25)).drew) ⟨(Box.new W2 (.slice none 0 0) (.slice none 0 0) (.bool false)).row⟩ HB3.out) HB4.out) (Nat.le_refl _) HBW4.out
        case rest =>
          obtain ⟨b, xv, yv, rfl, hbx, hnr, hbe⟩ := hcut.is
          obtain ⟨n1, m1, n2, m2, e4⟩ := hnr.slices
          cases e4
          have HBC : Hid (Below W.heap.size W wc) := HBW2.out.trans (hbe.mono HBW2.out.size)
          have HBX : Hid (Box wc b (.slice n1 R.lo.length m1) (.slice n2 R.hi.length m2) (.bool R.all)) := hbx
          have HNR : Hid (NewRange W2.heap.size wc (.agg #[.slice n1 R.lo.length m1, .slice n2 R.hi.length m2, .bool R.all]) R) := hnr
          have HEM := empty_any hnr.at
          obtain ⟨s0, s1, s2⟩ := hbx.cells
          clear hcut hbx hnr hbe z0 z1 r0 r1 r2 za0 za1 ra0 ra1 ra2 hn1 hn2
          go_wp2_with fail
          refine HEM.mono ?_
          rintro e w5 ⟨rfl, hb5⟩
          have HB5 : Hid (Below W.heap.size W w5) := HBC.out.trans (hb5.mono HBC.out.size)
          have HBX5 : Hid (Box w5 b (.slice n1 R.lo.length m1) (.slice n2 R.hi.length m2) (.bool R.all)) := HBX.out.here hb5
          have HNR5 : Hid (NewRange W2.heap.size w5 (.agg #[.slice n1 R.lo.length m1, .slice n2 R.hi.length m2, .bool R.all]) R) := HNR.out.here hb5
          clear hb5 HEM s0 s1 s2
          by_cases hem : R.empty = true
          · have HCS : Hid (cutM r m = none) := by rw [Hid, HCU.out, if_pos hem]
            rw [hem]
            clear hem HCU
            have HZ3 : Hid (MBox w5 (w.heap.size + 1 + 1) zeroM) := HZ.out.here HB5.out
            obtain ⟨k0, k1, k2, k3, k4⟩ := HZ3.out.cells
            have o0 := HZ3.out.open 0
            have o1 := HZ3.out.open 1
            have o2 := HZ3.out.open 2
            have o3 := HZ3.out.open 3
            have o4 := HZ3.out.open 4
            have hkp := put5_keep (B := w.heap.size) zeroM HZ3.out (by omega)
            have HEN : Hid (CutPost w m r (.returned (.tuple #[zeroM.val, .bool false])) (put5 w5 (w.heap.size + 1 + 1) zeroM)) := cut_none HCS.out ((HLE.out w5 HB5.out).trans hkp.low)
            clear hkp
            go_wp2
            exact bodyPost_ret (ret_msg2 (u := .bool false) rfl rfl rfl (put5_box (e := zeroM) _ HZ3.out)) rfl HEN.out
          · have hem' : R.empty = false := by simpa using hem
            have HCS : Hid (cutM r m = some ⟨m.st, m.kd, R.lo, R.hi, m.va⟩) := by rw [Hid, HCU.out, if_neg hem]
            rw [hem']
            have HCP := copied_any (HOK.out w5 HB5.out)
            simp only [Mt.val] at HCP
            obtain ⟨x0, x1, x2, x3, x4⟩ := (HX.out.here HB5.out).cells
            simp only at x0 x1 x2 x3 x4
            clear hem hem' HCU
            go_wp2_with fail
            refine HCP.mono ?_
            rintro e w6 ⟨⟨y1, y2, y3, ym⟩, rfl, hym, hn, hb6⟩
            simp only at hym
            subst hym
            obtain ⟨p1, q1, g1⟩ := hn.lo.in.form
            obtain ⟨p2, q2, g2⟩ := hn.hi.in.form
            obtain ⟨p3, q3, g3⟩ := hn.va.in.form
            simp only at g1 g2 g3
            subst g1 g2 g3
            have HB6 : Hid (Below W.heap.size W w6) := HB5.out.trans (hb6.mono HB5.out.size)
            have HN : Hid (NewMsg w.heap.size w6 ⟨.slice p1 ym.lo.length q1, .slice p2 ym.hi.length q2, .slice p3 ym.va.length q3, ym⟩) := hn.mono (HLE.out w5 HB5.out).size
            obtain ⟨W7, hW7⟩ : ∃ W7, W7 = w6.alloc (.cells #[.int .u64 (ym.st : Int), .int .i64 ym.kd, .slice p1 ym.lo.length q1, .slice p2 ym.hi.length q2, .slice p3 ym.va.length q3] 38) := ⟨_, rfl⟩
            have hbw7 : Below w6.heap.size w6 W7 := by rw [hW7]; exact below_new _ _
            have HM7 : Hid (MBox W7 w6.heap.size ⟨.slice p1 ym.lo.length q1, .slice p2 ym.hi.length q2, .slice p3 ym.va.length q3, ym⟩) := by rw [hW7]; exact ⟨heap_alloc_last _ _⟩
            have HB57 : Hid (Below w5.heap.size w5 W7) := hb6.trans (hbw7.mono hb6.size)
            have HB7 : Hid (Below W.heap.size W W7) := HB6.out.trans (hbw7.mono HB6.out.size)
            have HN7 : Hid (NewMsg w.heap.size W7 ⟨.slice p1 ym.lo.length q1, .slice p2 ym.hi.length q2, .slice p3 ym.va.length q3, ym⟩) := HN.out.here hbw7
            have HNR7 : Hid (NewRange W2.heap.size W7 (.agg #[.slice n1 R.lo.length m1, .slice n2 R.hi.length m2, .bool R.all]) R) := HNR5.out.here HB57.out
            obtain ⟨s0, s1, s2⟩ := (HBX5.out.here HB57.out).cells
            obtain ⟨x0', x1', x2', x3', x4'⟩ := HM7.out.cells
            simp only at x0' x1' x2' x3' x4'
            have i2 := HM7.out.open 2
            have i3 := HM7.out.open 3
            have hbl : b ≠ w6.heap.size := Nat.ne_of_lt (Nat.lt_of_lt_of_le HBX5.out.lt hb6.size)
            have hbl' : w6.heap.size ≠ b := Ne.symm hbl
            clear hn hb6 HCP hbw7 x0 x1 x2 x3 x4
            simp only [Mt.val]
            go_upto_region 11 with fail
            rw [← hW7]
            clear hW7
            have HZ7 : Hid (MBox W7 (w.heap.size + 1 + 1) zeroM) := HZ.out.here HB7.out
            have hzl : w.heap.size + 1 + 1 < w6.heap.size := (HZ.out.here HB6.out).lt
            have hw6 : w.heap.size ≤ w6.heap.size := by omega
            obtain ⟨W8, hW8⟩ : ∃ W8, W8 = ((W7.setCell ⟨w6.heap.size, 2, none⟩ (.slice n1 R.lo.length m1)).setCell ⟨w6.heap.size, 3, none⟩ (.slice n2 R.hi.length m2)).drew := ⟨_, rfl⟩
            have HM8 : Hid (MBox W8 w6.heap.size ⟨.slice n1 R.lo.length m1, .slice n2 R.hi.length m2, .slice p3 ym.va.length q3, ⟨ym.st, ym.kd, R.lo, R.hi, ym.va⟩⟩) := by rw [hW8]; exact ⟨heap_set_same (.slice n2 R.hi.length m2) (heap_set_same (.slice n1 R.lo.length m1) HM7.out.row)⟩
            have hk8' := (keep_set HM7.out.row hw6 (i := 2) (.slice n1 R.lo.length m1)).trans (keep_set (heap_set_same (i := 2) (.slice n1 R.lo.length m1) HM7.out.row) hw6 (i := 3) (.slice n2 R.hi.length m2))
            have hk8 : Keep 38 w.heap.size W7 W8 := by rw [hW8]; exact ⟨hk8'.low.drew, hk8'.typ⟩
            have HZ8 : Hid (MBox W8 (w.heap.size + 1 + 1) zeroM) := by
              rw [hW8]
              exact ⟨by show ((W7.setCell ⟨w6.heap.size, 2, none⟩ (.slice n1 R.lo.length m1)).setCell ⟨w6.heap.size, 3, none⟩ (.slice n2 R.hi.length m2)).heap[w.heap.size + 1 + 1]? = _; rw [heap_set_other _ (Nat.ne_of_lt hzl), heap_set_other _ (Nat.ne_of_lt hzl)]; exact HZ7.out.row⟩
            have hN8 : NewMsg w.heap.size W7 ⟨.slice n1 R.lo.length m1, .slice n2 R.hi.length m2, .slice p3 ym.va.length q3, ⟨ym.st, ym.kd, R.lo, R.hi, ym.va⟩⟩ := by
              obtain ⟨v1, v2, e, h1, h2, _⟩ := HNR7.out.is
              cases e
              exact ⟨h1.mono (HLE.out W2 HBW2.out).size, h2.mono (HLE.out W2 HBW2.out).size, HN7.out.va, HN7.out.st, HN7.out.kd⟩
            have hkp := put5_keep (B := w.heap.size) ⟨.slice n1 R.lo.length m1, .slice n2 R.hi.length m2, .slice p3 ym.va.length q3, ⟨ym.st, ym.kd, R.lo, R.hi, ym.va⟩⟩ HZ8.out (by omega)
            have HEN : Hid (CutPost w ym r (.returned (.tuple #[Mt.val ⟨.slice n1 R.lo.length m1, .slice n2 R.hi.length m2, .slice p3 ym.va.length q3, ⟨ym.st, ym.kd, R.lo, R.hi, ym.va⟩⟩, .bool true])) (put5 W8 (w.heap.size + 1 + 1) ⟨.slice n1 R.lo.length m1, .slice n2 R.hi.length m2, .slice p3 ym.va.length q3, ⟨ym.st, ym.kd, R.lo, R.hi, ym.va⟩⟩)) := cut_some HCS.out ((hN8.keep hk8 (by decide)).keep hkp (by decide)) ((HLE.out W7 HB7.out).trans (hk8.trans hkp).low)
            clear hk8' hk8 hN8 hkp
            go_region
            rw [← hW8]
            clear hW8 x0' x1' x2' x3' x4' i2 i3 s0 s1 s2
            obtain ⟨l0, l1, l2, l3, l4⟩ := HM8.out.cells
            simp only at l0 l1 l2 l3 l4
            obtain ⟨k0, k1, k2, k3, k4⟩ := HZ8.out.cells
            have o0 := HZ8.out.open 0
            have o1 := HZ8.out.open 1
            have o2 := HZ8.out.open 2
            have o3 := HZ8.out.open 3
            have o4 := HZ8.out.open 4
            go_wp2
            exact bodyPost_ret (ret_msg2 (u := .bool true) rfl rfl rfl (put5_box (e := ⟨.slice n1 R.lo.length m1, .slice n2 R.hi.length m2, .slice p3 ym.va.length q3, ⟨ym.st, ym.kd, R.lo, R.hi, ym.va⟩⟩) _ HZ8.out)) rfl HEN.out
      · rw [if_neg k3]
        have HCS : Hid (cutM r m = none) := by unfold Hid cutM; rw [if_neg (by omega), if_neg k3]
        clear k1 k2 k3
        have HZ3 : Hid (MBox w1 (w.heap.size + 1 + 1) zeroM) := HZ.out.here HB1.out
        obtain ⟨k0, k1, k2, k3, k4⟩ := HZ3.out.cells
        have o0 := HZ3.out.open 0
        have o1 := HZ3.out.open 1
        have o2 := HZ3.out.open 2
        have o3 := HZ3.out.open 3
        have o4 := HZ3.out.open 4
        have hkp := put5_keep (B := w.heap.size) zeroM HZ3.out (by omega)
        have HEN : Hid (CutPost w m r (.returned (.tuple #[zeroM.val, .bool false])) (put5 w1 (w.heap.size + 1 + 1) zeroM)) := cut_none HCS.out ((HLE.out w1 HB1.out).trans hkp.low)
        clear hkp
        go_wp2
        exact bodyPost_ret (ret_msg2 (u := .bool false) rfl rfl rfl (put5_box (e := zeroM) _ HZ3.out)) rfl HEN.out
end Go.Proofs.Ytkjjgbaoicjbaab
