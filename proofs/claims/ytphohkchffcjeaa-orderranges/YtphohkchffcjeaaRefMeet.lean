/- The document's answers for ranges: Meet of banyanref04. -/
import Derived.Test.YtphohkchffcjeaaRefForm
import Derived.Test.YtphohkchffcjeaaMinus
namespace Go.Proofs.Ytphohkchffcjeaa
open Go.RowKit

/-- What Form makes of two ranges that differ in an end that All hides. -/
theorem form_all (lo hi : Key) : Rg.form ⟨lo, hi, true⟩ = Rg.form ⟨lo, [], true⟩ := by simp [Rg.form, Rg.empty]

set_option maxHeartbeats 1600000 in
set_option maxRecDepth 100000 in
theorem refMeet_any {w : World} {v u : Value} {r o : Rg} (h : RangeAt w v r) (hu : RangeAt w u o) :
    Calls Try.prog 37 #[v, u] w fun e w' => ∃ v', e = .returned v' ∧ NewRange w.heap.size w' v' (r.meet o) ∧ Below w.heap.size w w' := by
  obtain ⟨v1, v2, rfl, h1, h2⟩ := h.in.is
  obtain ⟨u1, u2, rfl, h3, h4⟩ := hu.in.is
  obtain ⟨a1, c1, rfl⟩ := h1.form
  obtain ⟨a2, c2, rfl⟩ := h2.form
  obtain ⟨a3, c3, rfl⟩ := h3.form
  obtain ⟨a4, c4, rfl⟩ := h4.form
  have HK1 : Hid (KeyIn w.heap.size w (.slice a1 r.lo.length c1) r.lo) := h1
  have HK2 : Hid (KeyIn w.heap.size w (.slice a2 r.hi.length c2) r.hi) := h2
  have HK3 : Hid (KeyIn w.heap.size w (.slice a3 o.lo.length c3) o.lo) := h3
  have HK4 : Hid (KeyIn w.heap.size w (.slice a4 o.hi.length c4) o.hi) := h4
  clear h hu h1 h2 h3 h4
  obtain ⟨W, hW⟩ : ∃ W, W = ((w.alloc (.cells #[.slice a1 r.lo.length c1, .slice a2 r.hi.length c2, .bool r.all] 36)).alloc (.cells #[.slice a3 o.lo.length c3, .slice a4 o.hi.length c4, .bool o.all] 36)).alloc (.cells #[.slice none 0 0, .slice none 0 0, .bool false] 36) := ⟨_, rfl⟩
  have HBW : Hid (Below w.heap.size w W) := by rw [hW]; exact ((below_new w _).alloc (by simp) _).alloc (by simp; omega) _
  have hx0 : Box W w.heap.size (.slice a1 r.lo.length c1) (.slice a2 r.hi.length c2) (.bool r.all) := by rw [hW]; exact ((Box.new w _ _ _).alloc _).alloc _
  have hx1 : Box W (w.heap.size + 1) (.slice a3 o.lo.length c3) (.slice a4 o.hi.length c4) (.bool o.all) := by
    rw [hW]
    have := (Box.new (w.alloc (.cells #[.slice a1 r.lo.length c1, .slice a2 r.hi.length c2, .bool r.all] 36)) (.slice a3 o.lo.length c3) (.slice a4 o.hi.length c4) (.bool o.all)).alloc (.cells #[.slice none 0 0, .slice none 0 0, .bool false] 36)
    simpa using this
  have hx2 : Box W (w.heap.size + 2) (.slice none 0 0) (.slice none 0 0) (.bool false) := by
    rw [hW]
    have := Box.new ((w.alloc (.cells #[.slice a1 r.lo.length c1, .slice a2 r.hi.length c2, .bool r.all] 36)).alloc (.cells #[.slice a3 o.lo.length c3, .slice a4 o.hi.length c4, .bool o.all] 36)) (.slice none 0 0) (.slice none 0 0) (.bool false)
    simpa using this
  have HC1 := refLess_key ((HK1.out.at (Nat.le_refl _)).here HBW.out) ((HK3.out.at (Nat.le_refl _)).here HBW.out)
  have HX0 : Hid _ := hx0
  have HX1 : Hid _ := hx1
  have HX2 : Hid _ := hx2
  obtain ⟨k0, k1, k2⟩ := hx0.cells
  obtain ⟨m0, m1, m2⟩ := hx1.cells
  clear hx0 hx1 hx2
  go_enter Try.func37, Try.ntmps37
  go_upto_region 1 with fail
  rw [← hW]
  clear hW
  go_wp2_with fail
  refine HC1.mono ?_
  rintro e _ ⟨rfl, q, rfl⟩
  clear HC1
  obtain ⟨W1, hW1⟩ : ∃ W1, W1 = W.drewN q := ⟨_, rfl⟩
  rw [← hW1]
  have hbW : Below W.heap.size W W1 := by rw [hW1]; exact below_draws (Below.refl _ _) q
  have HB1 : Hid (Below w.heap.size w W1) := HBW.out.trans (hbW.mono HBW.out.size)
  have hx0 := HX0.out.here hbW
  have hx1 := HX1.out.here hbW
  have HX2' : Hid _ := HX2.out.here hbW
  clear hW1 hbW k0 k1 k2 m0 m1 m2
  obtain ⟨k0, k1, k2⟩ := hx0.cells
  obtain ⟨m0, m1, m2⟩ := hx1.cells
  clear hx0 hx1
  by_cases hlt : r.lo < o.lo
  case' pos =>
    have hd : decide (r.lo < o.lo) = true := decide_eq_true hlt
    have HKL : Hid (KeyIn w.heap.size w (.slice a3 o.lo.length c3) (Rg.meet0 r o).lo) := by rw [meet0_lo hlt]; exact HK3.out
    rw [hd]
  case' neg =>
    have hd : decide (r.lo < o.lo) = false := decide_eq_false hlt
    have HKL : Hid (KeyIn w.heap.size w (.slice a1 r.lo.length c1) (Rg.meet0 r o).lo) := by rw [meet0_lo' hlt]; exact HK1.out
    rw [hd]
  all_goals
    clear hd
    clear HX0 HX1 HX2
    cases hr : r.all with
    | true =>
      rw [hr] at k2
      cases ho : o.all with
      | true =>
        rw [ho] at m2
        have HB3 : Hid (Below w.heap.size w W1) := HB1.out
        have HZ2 : Hid (Box W1 (w.heap.size + 2) (.slice none 0 0) (.slice none 0 0) (.bool false)) := HX2'.out
        go_wp2_with fail
        have HEQ : Hid (Rg.form ⟨(Rg.meet0 r o).lo, [], true⟩ = r.meet o) := by rw [Hid, ← form_all _ (Rg.meet0 r o).hi]; simp [Rg.meet, Rg.meet0, hr, ho]
        refine (refForm_any (r := ⟨(Rg.meet0 r o).lo, [], true⟩) ⟨_, _, rfl, HKL.out.later rfl HB3.out, KeyAt.nil _⟩).mono ?_
        rintro e w4 ⟨v', rfl, hnew, hb4⟩
        rw [HEQ.out] at hnew
        obtain ⟨b1, d1, b2, d2, rfl⟩ := hnew.slices
        have HNEW : Hid _ := hnew
        have HB4 : Hid (Below w.heap.size w w4) := HB3.out.trans (hb4.mono HB3.out.size)
        have HZ4 : Hid (Box w4 (w.heap.size + 2) (.slice none 0 0) (.slice none 0 0) (.bool false)) := HZ2.out.here hb4
        obtain ⟨g0, g1, g2⟩ := HZ4.out.cells
        obtain ⟨j0, j1, j2⟩ := HZ4.out.open
        clear hnew hb4 k0 k1 k2 m0 m1 m2
        go_wp2
        exact bodyPost_ret (ret_box rfl rfl (put3_box HZ4.out)) rfl ⟨_, rfl, HNEW.out.put3 HZ4.out HB3.out.size _ _ _, put3_below HB4.out (by omega) _ _ _⟩
      | false =>
        rw [ho] at m2
        have HB3 : Hid (Below w.heap.size w W1) := HB1.out
        have HZ2 : Hid (Box W1 (w.heap.size + 2) (.slice none 0 0) (.slice none 0 0) (.bool false)) := HX2'.out
        go_wp2_with fail
        have HEQ : Hid (Rg.form ⟨(Rg.meet0 r o).lo, o.hi, false⟩ = r.meet o) := by simp [Hid, Rg.meet, Rg.meet0, hr, ho]
        refine (refForm_any (r := ⟨(Rg.meet0 r o).lo, o.hi, false⟩) ⟨_, _, rfl, HKL.out.later rfl HB3.out, HK4.out.later rfl HB3.out⟩).mono ?_
        rintro e w4 ⟨v', rfl, hnew, hb4⟩
        rw [HEQ.out] at hnew
        obtain ⟨b1, d1, b2, d2, rfl⟩ := hnew.slices
        have HNEW : Hid _ := hnew
        have HB4 : Hid (Below w.heap.size w w4) := HB3.out.trans (hb4.mono HB3.out.size)
        have HZ4 : Hid (Box w4 (w.heap.size + 2) (.slice none 0 0) (.slice none 0 0) (.bool false)) := HZ2.out.here hb4
        obtain ⟨g0, g1, g2⟩ := HZ4.out.cells
        obtain ⟨j0, j1, j2⟩ := HZ4.out.open
        clear hnew hb4 k0 k1 k2 m0 m1 m2
        go_wp2
        exact bodyPost_ret (ret_box rfl rfl (put3_box HZ4.out)) rfl ⟨_, rfl, HNEW.out.put3 HZ4.out HB3.out.size _ _ _, put3_below HB4.out (by omega) _ _ _⟩
    | false =>
      rw [hr] at k2
      cases ho : o.all with
      | true =>
        rw [ho] at m2
        have HB3 : Hid (Below w.heap.size w W1) := HB1.out
        have HZ2 : Hid (Box W1 (w.heap.size + 2) (.slice none 0 0) (.slice none 0 0) (.bool false)) := HX2'.out
        go_wp2_with fail
        have HEQ : Hid (Rg.form ⟨(Rg.meet0 r o).lo, r.hi, false⟩ = r.meet o) := by simp [Hid, Rg.meet, Rg.meet0, hr, ho]
        refine (refForm_any (r := ⟨(Rg.meet0 r o).lo, r.hi, false⟩) ⟨_, _, rfl, HKL.out.later rfl HB3.out, HK2.out.later rfl HB3.out⟩).mono ?_
        rintro e w4 ⟨v', rfl, hnew, hb4⟩
        rw [HEQ.out] at hnew
        obtain ⟨b1, d1, b2, d2, rfl⟩ := hnew.slices
        have HNEW : Hid _ := hnew
        have HB4 : Hid (Below w.heap.size w w4) := HB3.out.trans (hb4.mono HB3.out.size)
        have HZ4 : Hid (Box w4 (w.heap.size + 2) (.slice none 0 0) (.slice none 0 0) (.bool false)) := HZ2.out.here hb4
        obtain ⟨g0, g1, g2⟩ := HZ4.out.cells
        obtain ⟨j0, j1, j2⟩ := HZ4.out.open
        clear hnew hb4 k0 k1 k2 m0 m1 m2
        go_wp2
        exact bodyPost_ret (ret_box rfl rfl (put3_box HZ4.out)) rfl ⟨_, rfl, HNEW.out.put3 HZ4.out HB3.out.size _ _ _, put3_below HB4.out (by omega) _ _ _⟩
      | false =>
        rw [ho] at m2
        have HC2 := refLess_key (HK4.out.later rfl HB1.out) (HK2.out.later rfl HB1.out)
        go_wp2_with fail
        refine HC2.mono ?_
        rintro e _ ⟨rfl, q2, rfl⟩
        clear HC2
        have HB3 : Hid (Below w.heap.size w (W1.drewN q2)) := below_draws HB1.out q2
        have HZ2 : Hid (Box (W1.drewN q2) (w.heap.size + 2) (.slice none 0 0) (.slice none 0 0) (.bool false)) := ⟨HX2'.out.row⟩
        by_cases hlh : o.hi < r.hi
        · have hd : decide (o.hi < r.hi) = true := decide_eq_true hlh
          rw [hd]
          clear hd
          go_wp2_with fail
          have HEQ : Hid (Rg.form ⟨(Rg.meet0 r o).lo, o.hi, false⟩ = r.meet o) := by simp [Hid, Rg.meet, Rg.meet0, hr, ho, hlh]
          refine (refForm_any (r := ⟨(Rg.meet0 r o).lo, o.hi, false⟩) ⟨_, _, rfl, HKL.out.later rfl HB3.out, HK4.out.later rfl HB3.out⟩).mono ?_
          rintro e w4 ⟨v', rfl, hnew, hb4⟩
          rw [HEQ.out] at hnew
          obtain ⟨b1, d1, b2, d2, rfl⟩ := hnew.slices
          have HNEW : Hid _ := hnew
          have HB4 : Hid (Below w.heap.size w w4) := HB3.out.trans (hb4.mono HB3.out.size)
          have HZ4 : Hid (Box w4 (w.heap.size + 2) (.slice none 0 0) (.slice none 0 0) (.bool false)) := HZ2.out.here hb4
          obtain ⟨g0, g1, g2⟩ := HZ4.out.cells
          obtain ⟨j0, j1, j2⟩ := HZ4.out.open
          clear hnew hb4 k0 k1 k2 m0 m1 m2
          go_wp2
          exact bodyPost_ret (ret_box rfl rfl (put3_box HZ4.out)) rfl ⟨_, rfl, HNEW.out.put3 HZ4.out HB3.out.size _ _ _, put3_below HB4.out (by omega) _ _ _⟩
        · have hd : decide (o.hi < r.hi) = false := decide_eq_false hlh
          rw [hd]
          clear hd
          go_wp2_with fail
          have HEQ : Hid (Rg.form ⟨(Rg.meet0 r o).lo, r.hi, false⟩ = r.meet o) := by simp [Hid, Rg.meet, Rg.meet0, hr, ho, hlh]
          refine (refForm_any (r := ⟨(Rg.meet0 r o).lo, r.hi, false⟩) ⟨_, _, rfl, HKL.out.later rfl HB3.out, HK2.out.later rfl HB3.out⟩).mono ?_
          rintro e w4 ⟨v', rfl, hnew, hb4⟩
          rw [HEQ.out] at hnew
          obtain ⟨b1, d1, b2, d2, rfl⟩ := hnew.slices
          have HNEW : Hid _ := hnew
          have HB4 : Hid (Below w.heap.size w w4) := HB3.out.trans (hb4.mono HB3.out.size)
          have HZ4 : Hid (Box w4 (w.heap.size + 2) (.slice none 0 0) (.slice none 0 0) (.bool false)) := HZ2.out.here hb4
          obtain ⟨g0, g1, g2⟩ := HZ4.out.cells
          obtain ⟨j0, j1, j2⟩ := HZ4.out.open
          clear hnew hb4 k0 k1 k2 m0 m1 m2
          go_wp2
          exact bodyPost_ret (ret_box rfl rfl (put3_box HZ4.out)) rfl ⟨_, rfl, HNEW.out.put3 HZ4.out HB3.out.size _ _ _, put3_below HB4.out (by omega) _ _ _⟩
end Go.Proofs.Ytphohkchffcjeaa
