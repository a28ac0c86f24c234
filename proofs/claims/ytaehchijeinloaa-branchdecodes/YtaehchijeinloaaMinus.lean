/- Meet, Inside, Minus, Next, Between. -/
import Derived.Test.YtaehchijeinloaaMeet
import Derived.Laws.CopyOwn
namespace Go.Proofs.Ytaehchijeinloaa
open Go.RowKit

theorem meet0_lo {a b : Rg} (h : a.lo < b.lo) : (Rg.meet0 a b).lo = b.lo := by simp [Rg.meet0, h]
theorem meet0_lo' {a b : Rg} (h : ¬ a.lo < b.lo) : (Rg.meet0 a b).lo = a.lo := by simp [Rg.meet0, h]

theorem NewRange.put3 {base base' : Nat} {w : World} {v : Value} {r : Rg} {b : Nat} {x y z : Value} (h : NewRange base w v r) (hB : Box w b x y z) (hb : base' ≤ base) (x' y' z' : Value) : NewRange base' (put3 w b x' y' z') v r := by
  obtain ⟨v1, v2, rfl, h1, h2, h3⟩ := h.is
  exact ⟨v1, v2, rfl, (h1.mono hb).put3 hB _ _ _, (h2.mono hb).put3 hB _ _ _, h3⟩
/-- A new range's value, its keys slices. -/
theorem NewRange.slices {base : Nat} {w : World} {v : Value} {r : Rg} (h : NewRange base w v r) : ∃ a1 c1 a2 c2, v = .agg #[.slice a1 r.lo.length c1, .slice a2 r.hi.length c2, .bool r.all] := by
  obtain ⟨v1, v2, rfl, h1, h2, _⟩ := h.is
  obtain ⟨a1, c1, rfl, _⟩ := h1.at.is
  obtain ⟨a2, c2, rfl, _⟩ := h2.at.is
  exact ⟨a1, c1, a2, c2, rfl⟩
theorem KeyIn.later {B : Nat} {w W : World} {v : Value} {k : Key} (h : KeyIn w.heap.size w v k) (hB : B = w.heap.size) (hb : Below B w W) : KeyAt W v k := by
  subst hB
  exact (h.below hb).at hb.size

set_option maxHeartbeats 1600000 in
set_option maxRecDepth 100000 in
theorem meet_any {w : World} {v u : Value} {r o : Rg} (h : RangeAt w v r) (hu : RangeAt w u o) :
    Calls Try.prog 44 #[v, u] w fun e w' => ∃ v', e = .returned v' ∧ NewRange w.heap.size w' v' (r.meet o) ∧ Below w.heap.size w w' := by
  obtain ⟨v1, v2, rfl, h1, h2⟩ := h.in.is
  obtain ⟨u1, u2, rfl, h3, h4⟩ := hu.in.is
  obtain ⟨a1, c1, rfl⟩ := h1.form
  obtain ⟨a2, c2, rfl⟩ := h2.form
  obtain ⟨a3, c3, rfl⟩ := h3.form
  obtain ⟨a4, c4, rfl⟩ := h4.form
  have HK1 : Hid (KeyIn w.heap.size w (.slice a1 r.lo.length c1) r.lo) := h1
  have HK2 : Hid (KeyIn w.heap.size w (.slice a2 r.hi.length c2) r.hi) := h2
  have HK3 : Hid (KeyIn w.heap.size w (.slice a3 o.lo.length c3) o.lo) := h3
  have HK4 : Hid (KeyIn w.heap.size w (.slice a4 o.hi.length c4) o.hi) := h4
  clear h hu h1 h2 h3 h4
  obtain ⟨W, hW⟩ : ∃ W, W = (((w.alloc (.cells #[.slice a1 r.lo.length c1, .slice a2 r.hi.length c2, .bool r.all] 47)).alloc (.cells #[.slice a3 o.lo.length c3, .slice a4 o.hi.length c4, .bool o.all] 47)).alloc (.cells #[.slice none 0 0, .slice none 0 0, .bool false] 47)).alloc (.cells #[.slice a1 r.lo.length c1, .slice a2 r.hi.length c2, .bool r.all] 47) := ⟨_, rfl⟩
  have HBW : Hid (Below w.heap.size w W) := by rw [hW]; exact (((below_new w _).alloc (by simp) _).alloc (by simp; omega) _).alloc (by simp; omega) _
  have hx0 : Box W w.heap.size (.slice a1 r.lo.length c1) (.slice a2 r.hi.length c2) (.bool r.all) := by rw [hW]; exact (((Box.new w _ _ _).alloc _).alloc _).alloc _
  have hx1 : Box W (w.heap.size + 1) (.slice a3 o.lo.length c3) (.slice a4 o.hi.length c4) (.bool o.all) := by
    rw [hW]
    have := ((Box.new (w.alloc (.cells #[.slice a1 r.lo.length c1, .slice a2 r.hi.length c2, .bool r.all] 47)) (.slice a3 o.lo.length c3) (.slice a4 o.hi.length c4) (.bool o.all)).alloc (.cells #[.slice none 0 0, .slice none 0 0, .bool false] 47)).alloc (.cells #[.slice a1 r.lo.length c1, .slice a2 r.hi.length c2, .bool r.all] 47)
    simpa using this
  have hx2 : Box W (w.heap.size + 2) (.slice none 0 0) (.slice none 0 0) (.bool false) := by
    rw [hW]
    have := (Box.new ((w.alloc (.cells #[.slice a1 r.lo.length c1, .slice a2 r.hi.length c2, .bool r.all] 47)).alloc (.cells #[.slice a3 o.lo.length c3, .slice a4 o.hi.length c4, .bool o.all] 47)) (.slice none 0 0) (.slice none 0 0) (.bool false)).alloc (.cells #[.slice a1 r.lo.length c1, .slice a2 r.hi.length c2, .bool r.all] 47)
    simpa using this
  have hx3 : Box W (w.heap.size + 3) (.slice a1 r.lo.length c1) (.slice a2 r.hi.length c2) (.bool r.all) := by
    rw [hW]
    have := Box.new (((w.alloc (.cells #[.slice a1 r.lo.length c1, .slice a2 r.hi.length c2, .bool r.all] 47)).alloc (.cells #[.slice a3 o.lo.length c3, .slice a4 o.hi.length c4, .bool o.all] 47)).alloc (.cells #[.slice none 0 0, .slice none 0 0, .bool false] 47)) (.slice a1 r.lo.length c1) (.slice a2 r.hi.length c2) (.bool r.all)
    simpa using this
  have HCO := compare_key ((HK1.out.at (Nat.le_refl _)).here HBW.out) ((HK3.out.at (Nat.le_refl _)).here HBW.out)
  have HX0 : Hid _ := hx0
  have HX1 : Hid _ := hx1
  have HX2 : Hid _ := hx2
  have HX3 : Hid _ := hx3
  obtain ⟨k0, k1, k2⟩ := hx0.cells
  obtain ⟨m0, m1, m2⟩ := hx1.cells
  clear hx0 hx1 hx2 hx3
  go_enter Try.func44, Try.ntmps44
  go_upto_region 2 with fail
  rw [← hW]
  clear hW
  go_wp2_with fail
  refine HCO.mono ?_
  rintro e _ ⟨rfl, q, rfl⟩
  clear HCO
  obtain ⟨W1, hW1⟩ : ∃ W1, W1 = W.drewN q := ⟨_, rfl⟩
  rw [← hW1]
  have hbW : Below W.heap.size W W1 := by rw [hW1]; exact below_draws (Below.refl _ _) q
  have HB1 : Hid (Below w.heap.size w W1) := HBW.out.trans (hbW.mono HBW.out.size)
  have hx0 := HX0.out.here hbW
  have hx1 := HX1.out.here hbW
  have hx2 := HX2.out.here hbW
  have hx3 := HX3.out.here hbW
  clear hW1 hbW k0 k1 k2 m0 m1 m2
  obtain ⟨k0, k1, k2⟩ := hx0.cells
  obtain ⟨m0, m1, m2⟩ := hx1.cells
  obtain ⟨p0, p1, p2⟩ := hx3.cells
  obtain ⟨f0, f1, f2⟩ := hx3.open
  have HY2 : Hid (Box W1 (w.heap.size + 2) (.slice none 0 0) (.slice none 0 0) (.bool false)) := hx2
  by_cases hlt : r.lo < o.lo
  case' pos =>
    have hz : cmpK r.lo o.lo < 0 := cmpK_lt.2 hlt
    have HKL : Hid (KeyIn w.heap.size w (.slice a3 o.lo.length c3) (Rg.meet0 r o).lo) := by rw [meet0_lo hlt]; exact HK3.out
    go_upto_region 4 with fail
    obtain ⟨W2, hW2⟩ : ∃ W2, W2 = W1.setCell ⟨w.heap.size + 3, 0, none⟩ (.slice a3 o.lo.length c3) := ⟨_, rfl⟩
    rw [← hW2]
    have HB2 : Hid (Below w.heap.size w W2) := by rw [hW2]; exact HB1.out.setCell (by show _ ≤ _ + 3; omega) _
    have hy0 : Box W2 w.heap.size (.slice a1 r.lo.length c1) (.slice a2 r.hi.length c2) (.bool r.all) := by rw [hW2]; exact hx0.other _ (by omega)
    have hy1 : Box W2 (w.heap.size + 1) (.slice a3 o.lo.length c3) (.slice a4 o.hi.length c4) (.bool o.all) := by rw [hW2]; exact hx1.other _ (by omega)
    have hy2 : Box W2 (w.heap.size + 2) (.slice none 0 0) (.slice none 0 0) (.bool false) := by rw [hW2]; exact hx2.other _ (by omega)
    have hy3 : Box W2 (w.heap.size + 3) (.slice a3 o.lo.length c3) (.slice a2 r.hi.length c2) (.bool r.all) := by rw [hW2]; exact hx3.set0 _
  case' neg =>
    have hz : ¬ cmpK r.lo o.lo < 0 := fun h => hlt (cmpK_lt.1 h)
    have HKL : Hid (KeyIn w.heap.size w (.slice a1 r.lo.length c1) (Rg.meet0 r o).lo) := by rw [meet0_lo' hlt]; exact HK1.out
    go_upto_region 4 with fail
    obtain ⟨W2, hW2⟩ : ∃ W2, W2 = W1 := ⟨_, rfl⟩
    rw [← hW2] at hx0 hx1 hx2 hx3 HB1 ⊢
    have HB2 : Hid (Below w.heap.size w W2) := HB1.out
    have hy0 := hx0
    have hy1 := hx1
    have hy2 := hx2
    have hy3 := hx3
  all_goals
    clear hW2 hz hx0 hx1 hx2 hx3 k0 k1 k2 m0 m1 m2 p0 p1 p2 f0 f1 f2 HY2
    have HY0 : Hid _ := hy0
    have HY2 : Hid _ := hy2
    have HY3 : Hid _ := hy3
    obtain ⟨k0, k1, k2⟩ := hy0.cells
    obtain ⟨m0, m1, m2⟩ := hy1.cells
    obtain ⟨p0, p1, p2⟩ := hy3.cells
    obtain ⟨f0, f1, f2⟩ := hy3.open
    clear hy0 hy1 hy2 hy3
    cases ho : o.all with
    | true =>
      rw [ho] at m2
      have hall : (Rg.meet0 r o).all = r.all := by simp [Rg.meet0, ho]
      have hkh : KeyIn w.heap.size w (.slice a2 r.hi.length c2) (Rg.meet0 r o).hi := by simpa [Rg.meet0, ho] using HK2.out
      go_wp2_with fail
      obtain ⟨W3, hW3⟩ : ∃ W3, W3 = W2 := ⟨_, rfl⟩
      rw [← hW3] at HB2 HY2 ⊢
      have HB3 : Hid (Below w.heap.size w W3) := HB2.out
      have HZ2 : Hid (Box W3 (w.heap.size + 2) (.slice none 0 0) (.slice none 0 0) (.bool false)) := HY2.out
      clear hW3 k0 k1 k2 m0 m1 m2 p0 p1 p2 f0 f1 f2
      refine (form_any (r := Rg.meet0 r o) ⟨_, _, by rw [hall], HKL.out.later rfl HB3.out, hkh.later rfl HB3.out⟩).mono ?_
      rintro e w4 ⟨v', rfl, hnew, hb4⟩
      obtain ⟨b1, d1, b2, d2, rfl⟩ := hnew.slices
      have HNEW : Hid _ := hnew
      have HB4 : Hid (Below w.heap.size w w4) := HB3.out.trans (hb4.mono HB3.out.size)
      have HZ4 : Hid (Box w4 (w.heap.size + 2) (.slice none 0 0) (.slice none 0 0) (.bool false)) := HZ2.out.here hb4
      obtain ⟨g0, g1, g2⟩ := HZ4.out.cells
      obtain ⟨j0, j1, j2⟩ := HZ4.out.open
      clear hnew hb4 hall hkh
      go_wp2
      exact bodyPost_ret (ret_box rfl rfl (put3_box HZ4.out)) rfl ⟨_, rfl, HNEW.out.put3 HZ4.out HB3.out.size _ _ _, put3_below HB4.out (by omega) _ _ _⟩
    | false =>
      cases hr : r.all with
      | true =>
        rw [ho] at m2
        rw [hr] at k2 p2
        have hall : (Rg.meet0 r o).all = false := by simp [Rg.meet0, ho]
        have hkh : KeyIn w.heap.size w (.slice a4 o.hi.length c4) (Rg.meet0 r o).hi := by simpa [Rg.meet0, ho, hr] using HK4.out
        go_wp2_with fail
        obtain ⟨W3, hW3⟩ : ∃ W3, W3 = (W2.setCell ⟨w.heap.size + 3, 1, none⟩ (.slice a4 o.hi.length c4)).setCell ⟨w.heap.size + 3, 2, none⟩ (.bool false) := ⟨_, rfl⟩
        rw [← hW3]
        have HB3 : Hid (Below w.heap.size w W3) := by rw [hW3]; exact (HB2.out.setCell (by show _ ≤ _ + 3; omega) _).setCell (by show _ ≤ _ + 3; omega) _
        have HZ2 : Hid (Box W3 (w.heap.size + 2) (.slice none 0 0) (.slice none 0 0) (.bool false)) := by rw [hW3]; exact (HY2.out.other _ (by omega)).other _ (by omega)
        clear hW3 k0 k1 k2 m0 m1 m2 p0 p1 p2 f0 f1 f2
        refine (form_any (r := Rg.meet0 r o) ⟨_, _, by rw [hall], HKL.out.later rfl HB3.out, hkh.later rfl HB3.out⟩).mono ?_
        rintro e w4 ⟨v', rfl, hnew, hb4⟩
        obtain ⟨b1, d1, b2, d2, rfl⟩ := hnew.slices
        have HNEW : Hid _ := hnew
        have HB4 : Hid (Below w.heap.size w w4) := HB3.out.trans (hb4.mono HB3.out.size)
        have HZ4 : Hid (Box w4 (w.heap.size + 2) (.slice none 0 0) (.slice none 0 0) (.bool false)) := HZ2.out.here hb4
        obtain ⟨g0, g1, g2⟩ := HZ4.out.cells
        obtain ⟨j0, j1, j2⟩ := HZ4.out.open
        clear hnew hb4 hall hkh
        go_wp2
        exact bodyPost_ret (ret_box rfl rfl (put3_box HZ4.out)) rfl ⟨_, rfl, HNEW.out.put3 HZ4.out HB3.out.size _ _ _, put3_below HB4.out (by omega) _ _ _⟩
      | false =>
        rw [ho] at m2
        rw [hr] at k2 p2
        have HCO := compare_key (HK4.out.later rfl HB2.out) (HK2.out.later rfl HB2.out)
        have hall : (Rg.meet0 r o).all = false := by simp [Rg.meet0, ho]
        go_wp2_with fail
        refine HCO.mono ?_
        rintro e _ ⟨rfl, q2, rfl⟩
        clear HCO
        by_cases hlh : o.hi < r.hi
        · have hz2 : cmpK o.hi r.hi < 0 := cmpK_lt.2 hlh
          have hkh : KeyIn w.heap.size w (.slice a4 o.hi.length c4) (Rg.meet0 r o).hi := by simpa [Rg.meet0, ho, hr, hlh] using HK4.out
          go_wp2_with fail
          obtain ⟨W3, hW3⟩ : ∃ W3, W3 = ((W2.drewN q2).setCell ⟨w.heap.size + 3, 1, none⟩ (.slice a4 o.hi.length c4)).setCell ⟨w.heap.size + 3, 2, none⟩ (.bool false) := ⟨_, rfl⟩
          rw [← hW3]
          have HB3 : Hid (Below w.heap.size w W3) := by rw [hW3]; exact ((below_draws HB2.out q2).setCell (by show _ ≤ _ + 3; omega) _).setCell (by show _ ≤ _ + 3; omega) _
          have HZ2 : Hid (Box W3 (w.heap.size + 2) (.slice none 0 0) (.slice none 0 0) (.bool false)) := by rw [hW3]; exact (Box.other (w := W2.drewN q2) ⟨HY2.out.row⟩ _ (by omega)).other _ (by omega)
          clear hW3 k0 k1 k2 m0 m1 m2 p0 p1 p2 f0 f1 f2
          refine (form_any (r := Rg.meet0 r o) ⟨_, _, by rw [hall], HKL.out.later rfl HB3.out, hkh.later rfl HB3.out⟩).mono ?_
          rintro e w4 ⟨v', rfl, hnew, hb4⟩
          obtain ⟨b1, d1, b2, d2, rfl⟩ := hnew.slices
          have HNEW : Hid _ := hnew
          have HB4 : Hid (Below w.heap.size w w4) := HB3.out.trans (hb4.mono HB3.out.size)
          have HZ4 : Hid (Box w4 (w.heap.size + 2) (.slice none 0 0) (.slice none 0 0) (.bool false)) := HZ2.out.here hb4
          obtain ⟨g0, g1, g2⟩ := HZ4.out.cells
          obtain ⟨j0, j1, j2⟩ := HZ4.out.open
          clear hnew hb4 hall hkh
          go_wp2
          exact bodyPost_ret (ret_box rfl rfl (put3_box HZ4.out)) rfl ⟨_, rfl, HNEW.out.put3 HZ4.out HB3.out.size _ _ _, put3_below HB4.out (by omega) _ _ _⟩
        · have hz2 : ¬ cmpK o.hi r.hi < 0 := fun h => hlh (cmpK_lt.1 h)
          have hkh : KeyIn w.heap.size w (.slice a2 r.hi.length c2) (Rg.meet0 r o).hi := by simpa [Rg.meet0, ho, hr, hlh] using HK2.out
          go_wp2_with fail
          obtain ⟨W3, hW3⟩ : ∃ W3, W3 = W2.drewN q2 := ⟨_, rfl⟩
          rw [← hW3]
          have HB3 : Hid (Below w.heap.size w W3) := by rw [hW3]; exact below_draws HB2.out q2
          have HZ2 : Hid (Box W3 (w.heap.size + 2) (.slice none 0 0) (.slice none 0 0) (.bool false)) := by rw [hW3]; exact ⟨HY2.out.row⟩
          clear hW3 k0 k1 k2 m0 m1 m2 p0 p1 p2 f0 f1 f2
          refine (form_any (r := Rg.meet0 r o) ⟨_, _, by rw [hall], HKL.out.later rfl HB3.out, hkh.later rfl HB3.out⟩).mono ?_
          rintro e w4 ⟨v', rfl, hnew, hb4⟩
          obtain ⟨b1, d1, b2, d2, rfl⟩ := hnew.slices
          have HNEW : Hid _ := hnew
          have HB4 : Hid (Below w.heap.size w w4) := HB3.out.trans (hb4.mono HB3.out.size)
          have HZ4 : Hid (Box w4 (w.heap.size + 2) (.slice none 0 0) (.slice none 0 0) (.bool false)) := HZ2.out.here hb4
          obtain ⟨g0, g1, g2⟩ := HZ4.out.cells
          obtain ⟨j0, j1, j2⟩ := HZ4.out.open
          clear hnew hb4 hall hkh
          go_wp2
          exact bodyPost_ret (ret_box rfl rfl (put3_box HZ4.out)) rfl ⟨_, rfl, HNEW.out.put3 HZ4.out HB3.out.size _ _ _, put3_below HB4.out (by omega) _ _ _⟩
end Go.Proofs.Ytaehchijeinloaa
