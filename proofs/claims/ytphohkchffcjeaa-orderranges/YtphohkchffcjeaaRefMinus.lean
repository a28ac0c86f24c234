/- The document's answers for ranges: Inside, Minus of banyanref04. -/
import Derived.Test.YtphohkchffcjeaaRefMeet
import Derived.Test.YtphohkchffcjeaaRefSame
import Derived.Test.YtphohkchffcjeaaParts
namespace Go.Proofs.Ytphohkchffcjeaa
open Go.RowKit

theorem put_far {w : World} {b c j : Nat} {x y z v : Value} (h : w.cell? ⟨b, j, none⟩ = some v) (hn : b ≠ c) : (((w.setCell ⟨c, 0, none⟩ x).setCell ⟨c, 1, none⟩ y).setCell ⟨c, 2, none⟩ z).cell? ⟨b, j, none⟩ = some v := by
  rw [cell_far hn, cell_far hn, cell_far hn]; exact h
theorem two_end {n : Nat} {w0 w : World} {x1 x2 x3 y1 y2 y3 a b c a' b' c' : Value} {r o : Rg} (h2 : Box w (n + 2) a b c) (h3 : Box w (n + 3) a' b' c') (hx : NewRange n w (.agg #[x1, x2, x3]) r) (hy : NewRange n w (.agg #[y1, y2, y3]) o) (hb : Below n w0 w) :
    Box (put3 (put3 w (n + 2) x1 x2 x3) (n + 3) y1 y2 y3) (n + 2) x1 x2 x3 ∧ Box (put3 (put3 w (n + 2) x1 x2 x3) (n + 3) y1 y2 y3) (n + 3) y1 y2 y3 ∧
    NewRange n (put3 (put3 w (n + 2) x1 x2 x3) (n + 3) y1 y2 y3) (.agg #[x1, x2, x3]) r ∧ NewRange n (put3 (put3 w (n + 2) x1 x2 x3) (n + 3) y1 y2 y3) (.agg #[y1, y2, y3]) o ∧
    Below n w0 (put3 (put3 w (n + 2) x1 x2 x3) (n + 3) y1 y2 y3) := by
  have h3' : Box (put3 w (n + 2) x1 x2 x3) (n + 3) a' b' c' := h3.put3' (by omega)
  exact ⟨(put3_box h2).put3' (by omega), put3_box h3', (hx.put3 h2 (Nat.le_refl _) _ _ _).put3 h3' (Nat.le_refl _) _ _ _, (hy.put3 h2 (Nat.le_refl _) _ _ _).put3 h3' (Nat.le_refl _) _ _ _, put3_below (put3_below hb (by omega) _ _ _) (by omega) _ _ _⟩

set_option maxHeartbeats 1600000 in
set_option maxRecDepth 100000 in
theorem refInside_any {w : World} {v u : Value} {r o : Rg} (h : RangeAt w v r) (hu : RangeAt w u o) :
    Calls Try.prog 45 #[v, u] w fun e w' => e = .returned (.bool (decide (r.meet o = r.form))) ∧ Below w.heap.size w w' := by
  have HR : Hid (RangeAt w v r) := h
  have HO : Hid (RangeAt w u o) := hu
  obtain ⟨v1, v2, rfl, h1, h2⟩ := h.in.is
  obtain ⟨u1, u2, rfl, h3, h4⟩ := hu.in.is
  obtain ⟨a1, c1, rfl⟩ := h1.form
  obtain ⟨a2, c2, rfl⟩ := h2.form
  obtain ⟨a3, c3, rfl⟩ := h3.form
  obtain ⟨a4, c4, rfl⟩ := h4.form
  clear h hu h1 h2 h3 h4
  obtain ⟨W, hW⟩ : ∃ W, W = (w.alloc (.cells #[.slice a1 r.lo.length c1, .slice a2 r.hi.length c2, .bool r.all] 36)).alloc (.cells #[.slice a3 o.lo.length c3, .slice a4 o.hi.length c4, .bool o.all] 36) := ⟨_, rfl⟩
  have HB : Hid (Below w.heap.size w W) := by rw [hW]; exact (below_new w _).alloc (by simp) _
  have hx0 : Box W w.heap.size (.slice a1 r.lo.length c1) (.slice a2 r.hi.length c2) (.bool r.all) := by rw [hW]; exact (Box.new _ _ _ _).alloc _
  have hx1 : Box W (w.heap.size + 1) (.slice a3 o.lo.length c3) (.slice a4 o.hi.length c4) (.bool o.all) := by
    rw [hW]
    have := Box.new (w.alloc (.cells #[.slice a1 r.lo.length c1, .slice a2 r.hi.length c2, .bool r.all] 36)) (.slice a3 o.lo.length c3) (.slice a4 o.hi.length c4) (.bool o.all)
    simpa using this
  have HX0 : Hid _ := hx0
  obtain ⟨k0, k1, k2⟩ := hx0.cells
  obtain ⟨m0, m1, m2⟩ := hx1.cells
  clear hx0 hx1
  go_enter Try.func45, Try.ntmps45
  go_upto_region 1 with fail
  rw [← hW]
  clear hW
  go_wp2_with fail
  refine (refMeet_any (HR.out.here HB.out) (HO.out.here HB.out)).mono ?_
  rintro e w1 ⟨x, rfl, hx, hb1⟩
  obtain ⟨b1, d1, b2, d2, rfl⟩ := hx.slices
  have HX : Hid _ := hx
  have HB1 : Hid (Below w.heap.size w w1) := HB.out.trans (hb1.mono HB.out.size)
  have HY0 : Hid _ := HX0.out.here hb1
  clear hb1 hx k0 k1 k2 m0 m1 m2
  go_upto_region 2 with fail
  obtain ⟨W3, hW3⟩ : ∃ W3, W3 = w1.alloc (.cells #[.slice b1 (r.meet o).lo.length d1, .slice b2 (r.meet o).hi.length d2, .bool (r.meet o).all] 36) := ⟨_, rfl⟩
  rw [← hW3]
  have hb3 : Below w1.heap.size w1 W3 := by rw [hW3]; exact below_new _ _
  have HB3 : Hid (Below w.heap.size w W3) := HB1.out.trans (hb3.mono HB1.out.size)
  have hz : Box W3 w1.heap.size (.slice b1 (r.meet o).lo.length d1) (.slice b2 (r.meet o).hi.length d2) (.bool (r.meet o).all) := by rw [hW3]; exact Box.new _ _ _ _
  have HV : Hid (RangeAt W3 (.agg #[.slice b1 (r.meet o).lo.length d1, .slice b2 (r.meet o).hi.length d2, .bool (r.meet o).all]) (r.meet o)) := (HX.out.here hb3).at
  have HZ0 : Hid _ := HY0.out.here hb3
  have HZ : Hid _ := hz
  obtain ⟨k0, k1, k2⟩ := HZ0.out.cells
  obtain ⟨m0, m1, m2⟩ := hz.cells
  clear hW3 hb3 hz
  go_region_held_law (fun W' => W'.cell? ⟨w.heap.size, 0, none⟩ = some (.slice a1 r.lo.length c1) ∧ W'.cell? ⟨w.heap.size, 1, none⟩ = some (.slice a2 r.hi.length c2) ∧ W'.cell? ⟨w.heap.size, 2, none⟩ = some (.bool r.all) ∧ W'.cell? ⟨w1.heap.size, 0, none⟩ = some (.slice b1 (r.meet o).lo.length d1) ∧ W'.cell? ⟨w1.heap.size, 1, none⟩ = some (.slice b2 (r.meet o).hi.length d2) ∧ W'.cell? ⟨w1.heap.size, 2, none⟩ = some (.bool (r.meet o).all)) (first | go_keep | (refine ⟨?_, ?_, ?_, ?_, ?_, ?_⟩ <;> assumption))
    (first
      | (go_at_call 53; refine (refForm_any (HR.out.here (HB3.out.drew))).mono ?_
         rintro e w4 ⟨y, rfl, hy, hb4⟩
         obtain ⟨b3, d3, b4, d4, rfl⟩ := hy.slices
         have HF : Hid _ := hy.at
         have HB4 : Hid (Below W3.heap.size W3 w4) := ((Below.refl _ W3).drew).trans hb4
         clear hy hb4
         obtain ⟨s0, s1, s2⟩ := (HZ0.out.here HB4.out).cells
         obtain ⟨t0, t1, t2⟩ := (HZ.out.here HB4.out).cells)
      | (go_at_call 56; refine (refSameRange_any (HV.out.here HB4.out) HF.out).mono ?_
         rintro e w5 ⟨rfl, hb5⟩
         have HB5 : Hid (Below w.heap.size w w5) := HB3.out.trans ((HB4.out.mono HB3.out.size).trans (hb5.mono (Nat.le_trans HB3.out.size HB4.out.size)))
         obtain ⟨x0, x1, x2⟩ := ((HZ0.out.here HB4.out).here hb5).cells
         obtain ⟨y0, y1, y2⟩ := ((HZ.out.here HB4.out).here hb5).cells
         clear hb5))
  go_wp2
  go_ret
  exact ⟨rfl, HB5.out⟩

theorem Rg.inside_meet (a b : Rg) : a.inside b = decide (a.meet b = a.form) := by
  rw [Bool.eq_iff_iff, decide_eq_true_eq]
  constructor
  · intro h
    exact Rg.form_eq (Rg.form_formed _) (Rg.form_formed _) fun k => by
      rw [Rg.has_meet, Rg.has_form]
      cases hk : a.has k with
      | false => rfl
      | true => rw [Rg.inside_has h k hk]; rfl
  · intro h
    have hh : ∀ k, (a.has k && b.has k) = a.has k := fun k => by rw [← Rg.has_meet, h, Rg.has_form]
    have h1 := hh a.lo
    have h2 := hh b.hi
    have n1 := Rg.nil_le a.lo
    have n2 := Rg.nil_le b.hi
    unfold Rg.inside Rg.empty Rg.has at *
    rcases a with ⟨lo, hi, all⟩
    rcases b with ⟨lo', hi', all'⟩
    cases all <;> cases all' <;> simp at * <;> grind

set_option maxHeartbeats 1600000 in
set_option maxRecDepth 100000 in
theorem refMinus_any {w : World} {v u : Value} {r o : Rg} (h : RangeAt w v r) (hu : RangeAt w u o) :
    Calls Try.prog 38 #[v, u] w fun e w' => ∃ x y, e = .returned (.tuple #[x, y]) ∧ NewRange w.heap.size w' x (r.ahead o) ∧ NewRange w.heap.size w' y (r.behind o) ∧ Below w.heap.size w w' := by
  have HR : Hid (RangeAt w v r) := h
  have HO : Hid (RangeAt w u o) := hu
  obtain ⟨v1, v2, rfl, h1, h2⟩ := h.in.is
  obtain ⟨u1, u2, rfl, h3, h4⟩ := hu.in.is
  obtain ⟨a1, c1, rfl⟩ := h1.form
  obtain ⟨a2, c2, rfl⟩ := h2.form
  obtain ⟨a3, c3, rfl⟩ := h3.form
  obtain ⟨a4, c4, rfl⟩ := h4.form
  have HK3 : Hid (KeyIn w.heap.size w (.slice a3 o.lo.length c3) o.lo) := h3
  have HK4 : Hid (KeyIn w.heap.size w (.slice a4 o.hi.length c4) o.hi) := h4
  clear h hu h1 h2 h3 h4
  obtain ⟨W, hW⟩ : ∃ W, W = (((w.alloc (.cells #[.slice a1 r.lo.length c1, .slice a2 r.hi.length c2, .bool r.all] 36)).alloc (.cells #[.slice a3 o.lo.length c3, .slice a4 o.hi.length c4, .bool o.all] 36)).alloc (.cells #[.slice none 0 0, .slice none 0 0, .bool false] 36)).alloc (.cells #[.slice none 0 0, .slice none 0 0, .bool false] 36) := ⟨_, rfl⟩
  have HBW : Hid (Below w.heap.size w W) := by rw [hW]; exact (((below_new w _).alloc (by simp) _).alloc (by simp; omega) _).alloc (by simp; omega) _
  have key : ∀ (W : World) (n : Nat) (x y z : Value), W.heap.size = n → Box (W.alloc (.cells #[x, y, z] 36)) n x y z := fun W n x y z h => by subst h; exact Box.new W x y z
  have hx0 : Box W w.heap.size (.slice a1 r.lo.length c1) (.slice a2 r.hi.length c2) (.bool r.all) := by rw [hW]; exact (((key w _ _ _ _ rfl).alloc _).alloc _).alloc _
  have hx1 : Box W (w.heap.size + 1) (.slice a3 o.lo.length c3) (.slice a4 o.hi.length c4) (.bool o.all) := by rw [hW]; exact ((key _ _ _ _ _ (by simp)).alloc _).alloc _
  have hx2 : Box W (w.heap.size + 2) (.slice none 0 0) (.slice none 0 0) (.bool false) := by rw [hW]; exact (key _ _ _ _ _ (by simp)).alloc _
  have hx3 : Box W (w.heap.size + 3) (.slice none 0 0) (.slice none 0 0) (.bool false) := by rw [hW]; exact key _ _ _ _ _ (by simp)
  have HX0 : Hid _ := hx0
  have HX1 : Hid _ := hx1
  have HX2 : Hid _ := hx2
  have HX3 : Hid _ := hx3
  obtain ⟨m0, m1, m2⟩ := hx1.cells
  clear hx0 hx1 hx2 hx3 key
  go_enter Try.func38, Try.ntmps38
  go_upto_region 1 with fail
  rw [← hW]
  clear hW
  go_wp2_with fail
  refine (refEmpty_any (HO.out.here HBW.out)).mono ?_
  rintro e W1 ⟨rfl, hb1⟩
  have HY0 : Hid _ := HX0.out.here hb1
  have HY1 : Hid _ := HX1.out.here hb1
  have HY2 : Hid _ := HX2.out.here hb1
  have HY3 : Hid _ := HX3.out.here hb1
  have HB1 : Hid (Below w.heap.size w W1) := HBW.out.trans (hb1.mono HBW.out.size)
  clear hb1 m0 m1 m2 HX0 HX1 HX2 HX3
  obtain ⟨k0, k1, k2⟩ := HY0.out.cells
  obtain ⟨m0, m1, m2⟩ := HY1.out.cells
  cases he : o.empty with
  | true =>
    have HA : Hid (r.ahead o = r.form) := by simp [Hid, Rg.ahead, he]
    have HZ : Hid (r.behind o = Rg.zero) := by simp [Hid, Rg.behind, he]
    go_wp2_with fail
    refine (refForm_any (HR.out.here HB1.out)).mono ?_
    rintro e W2 ⟨x, rfl, hx, hb2⟩
    rw [← HA.out] at hx
    obtain ⟨b1, d1, b2, d2, rfl⟩ := hx.slices
    have HX : Hid _ := hx.mono HB1.out.size
    have HB2 : Hid (Below w.heap.size w W2) := HB1.out.trans (hb2.mono HB1.out.size)
    have HZ2 : Hid _ := HY2.out.here hb2
    have HZ3 : Hid _ := HY3.out.here hb2
    clear hx hb2 k0 k1 k2 m0 m1 m2
    obtain ⟨p0, p1, p2⟩ := HZ2.out.cells
    obtain ⟨f0, f1, f2⟩ := HZ2.out.open
    obtain ⟨q0, q1, q2⟩ := HZ3.out.cells
    obtain ⟨g0, g1, g2⟩ := HZ3.out.open
    go_wp2
    have hz := NewRange.zero w.heap.size W2
    rw [← HZ.out] at hz
    obtain ⟨e1, e2, e3, e4, e5⟩ := two_end HZ2.out HZ3.out HX.out hz HB2.out
    exact bodyPost_ret (ret_boxes rfl rfl rfl e1 e2) rfl ⟨_, _, rfl, e3, e4, e5⟩
  | false =>
    have HA : Hid (r.ahead o = r.meet ⟨[], o.lo, false⟩) := by simp [Hid, Rg.ahead, he]
    go_wp2_with fail
    refine (refMeet_any (HR.out.here HB1.out) (o := ⟨[], o.lo, false⟩) ⟨_, _, rfl, KeyAt.nil _, HK3.out.later rfl HB1.out⟩).mono ?_
    rintro e W2 ⟨x, rfl, hx, hb2⟩
    rw [← HA.out] at hx
    obtain ⟨b1, d1, b2, d2, rfl⟩ := hx.slices
    have HX : Hid _ := hx.mono HB1.out.size
    have HB2 : Hid (Below w.heap.size w W2) := HB1.out.trans (hb2.mono HB1.out.size)
    have HZ0 : Hid _ := HY0.out.here hb2
    have HZ1 : Hid _ := HY1.out.here hb2
    have HZ2 : Hid _ := HY2.out.here hb2
    have HZ3 : Hid _ := HY3.out.here hb2
    clear hx hb2 k0 k1 k2 m0 m1 m2
    go_upto_region 5 with fail
    obtain ⟨W3, hW3⟩ : ∃ W3, W3 = W2.alloc (.cells #[.slice b1 (r.ahead o).lo.length d1, .slice b2 (r.ahead o).hi.length d2, .bool (r.ahead o).all] 36) := ⟨_, rfl⟩
    rw [← hW3]
    have hb3 : Below W2.heap.size W2 W3 := by rw [hW3]; exact below_new _ _
    have HB3 : Hid (Below w.heap.size w W3) := HB2.out.trans (hb3.mono HB2.out.size)
    have hz : Box W3 W2.heap.size (.slice b1 (r.ahead o).lo.length d1) (.slice b2 (r.ahead o).hi.length d2) (.bool (r.ahead o).all) := by rw [hW3]; exact Box.new _ _ _ _
    have HX3 : Hid (NewRange w.heap.size W3 (.agg #[.slice b1 (r.ahead o).lo.length d1, .slice b2 (r.ahead o).hi.length d2, .bool (r.ahead o).all]) (r.ahead o)) := HX.out.here hb3
    have HV : Hid _ := hz
    have HV0 : Hid _ := HZ0.out.here hb3
    have HV1 : Hid _ := HZ1.out.here hb3
    have HV2 : Hid _ := HZ2.out.here hb3
    have HV3 : Hid _ := HZ3.out.here hb3
    have hn : w.heap.size + 3 < W2.heap.size := HZ3.out.lt
    clear hW3 hb3 hz HZ0 HZ1 HZ2 HZ3
    obtain ⟨k0, k1, k2⟩ := HV0.out.cells
    obtain ⟨m0, m1, m2⟩ := HV1.out.cells
    obtain ⟨t0, t1, t2⟩ := HV.out.cells
    cases ho : o.all with
    | true =>
      have HZ : Hid (r.behind o = Rg.zero) := by simp [Hid, Rg.behind, ho]
      rw [ho] at m2
      obtain ⟨p0, p1, p2⟩ := HV2.out.cells
      obtain ⟨f0, f1, f2⟩ := HV2.out.open
      obtain ⟨q0, q1, q2⟩ := HV3.out.cells
      obtain ⟨g0, g1, g2⟩ := HV3.out.open
      go_wp2
      have hz := NewRange.zero w.heap.size W3
      rw [← HZ.out] at hz
      obtain ⟨e1, e2, e3, e4, e5⟩ := two_end HV2.out HV3.out HX3.out hz HB3.out
      exact bodyPost_ret (ret_boxes rfl rfl rfl e1 e2) rfl ⟨_, _, rfl, e3, e4, e5⟩
    | false =>
      have HZ : Hid (r.behind o = r.meet ⟨o.hi, [], true⟩) := by simp [Hid, Rg.behind, he, ho]
      rw [ho] at m2
      go_wp2_with fail
      go_region_held_law (fun W' => W'.cell? ⟨w.heap.size, 0, none⟩ = some (.slice a1 r.lo.length c1) ∧ W'.cell? ⟨w.heap.size, 1, none⟩ = some (.slice a2 r.hi.length c2) ∧ W'.cell? ⟨w.heap.size, 2, none⟩ = some (.bool r.all) ∧ W'.cell? ⟨W2.heap.size, 0, none⟩ = some (.slice b1 (r.ahead o).lo.length d1) ∧ W'.cell? ⟨W2.heap.size, 1, none⟩ = some (.slice b2 (r.ahead o).hi.length d2) ∧ W'.cell? ⟨W2.heap.size, 2, none⟩ = some (.bool (r.ahead o).all) ∧ W'.cell? ⟨w.heap.size + 1, 1, none⟩ = some (.slice a4 o.hi.length c4)) (first | (refine ⟨?_, ?_, ?_, ?_, ?_, ?_, ?_⟩ <;> with_reducible assumption) | (refine ⟨?_, ?_, ?_, ?_, ?_, ?_, ?_⟩ <;> with_reducible exact put_far (by with_reducible assumption) (by omega)) | (refine ⟨?_, ?_, ?_, ?_, ?_, ?_, ?_⟩ <;> with_reducible exact put_far (put_far (by with_reducible assumption) (by omega)) (by omega)) | (go_keep; done))
        (first
          | (go_at_call 37; refine (refMeet_any (HR.out.here (HB3.out.drew)) (o := ⟨o.hi, [], true⟩) ⟨_, _, rfl, HK4.out.later rfl (HB3.out.drew), KeyAt.nil _⟩).mono ?_
             rintro e w4 ⟨y, rfl, hy, hb4⟩
             rw [← HZ.out] at hy
             obtain ⟨b3, d3, b4, d4, rfl⟩ := hy.slices
             have hb34 : Below W3.heap.size W3 w4 := ((Below.refl _ W3).drew).trans hb4
             have HB4 : Hid (Below w.heap.size w w4) := HB3.out.trans (hb34.mono HB3.out.size)
             have HYN : Hid _ := hy.mono (base' := w.heap.size) HB3.out.size
             have HX4 : Hid _ := HX3.out.here hb34
             have HU2 : Hid _ := HV2.out.here hb34
             have HU3 : Hid _ := HV3.out.here hb34
             obtain ⟨n0, n1, n2⟩ := (HV0.out.here hb34).cells
             obtain ⟨x0, x1, x2⟩ := (HV1.out.here hb34).cells
             obtain ⟨y0, y1, y2⟩ := (HV.out.here hb34).cells
             obtain ⟨p0, p1, p2⟩ := HU2.out.cells
             obtain ⟨f0, f1, f2⟩ := HU2.out.open
             obtain ⟨q0, q1, q2⟩ := HU3.out.cells
             obtain ⟨g0, g1, g2⟩ := HU3.out.open
             clear hy hb4 hb34))
      all_goals
        go_wp2
        obtain ⟨e1, e2, e3, e4, e5⟩ := two_end HU2.out HU3.out HX4.out HYN.out HB4.out
        exact bodyPost_ret (ret_boxes rfl rfl rfl e1 e2) rfl ⟨_, _, rfl, e3, e4, e5⟩
end Go.Proofs.Ytphohkchffcjeaa
