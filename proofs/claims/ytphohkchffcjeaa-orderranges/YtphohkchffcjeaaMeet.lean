/- stretch, Meet, Inside, Minus. -/
import Derived.Test.YtphohkchffcjeaaForm
import Derived.Deep.DeepCutAuto
namespace Go.Proofs.Ytphohkchffcjeaa
open Go.RowKit

/-- A key whose bytes lie below a border. -/
structure KeyIn (B : Nat) (w : World) (v : Value) (ks : Key) : Prop where
  is : ∃ a c, v = .slice a ks.length c ∧ BytesAt B w a ks ∧ ks.length ≤ c ∧ (a = none → c = 0)
  short : ks.length ≤ 140737488355328
theorem KeyIn.at {B : Nat} {w : World} {v : Value} {ks : Key} (h : KeyIn B w v ks) (hB : B ≤ w.heap.size) : KeyAt w v ks := by
  obtain ⟨⟨a, c, rfl, h1, h2⟩, h3⟩ := h
  exact ⟨⟨a, c, rfl, h1.mono hB, h2⟩, h3⟩
theorem KeyAt.in {w : World} {v : Value} {ks : Key} (h : KeyAt w v ks) : KeyIn w.heap.size w v ks := ⟨h.is, h.short⟩
theorem KeyIn.below {B : Nat} {w w' : World} {v : Value} {ks : Key} (h : KeyIn B w v ks) (hb : Below B w w') : KeyIn B w' v ks := by
  obtain ⟨⟨a, c, rfl, h1, h2⟩, h3⟩ := h
  exact ⟨⟨a, c, rfl, h1.below hb, h2⟩, h3⟩
structure RangeIn (B : Nat) (w : World) (v : Value) (r : Rg) : Prop where
  is : ∃ v1 v2, v = .agg #[v1, v2, .bool r.all] ∧ KeyIn B w v1 r.lo ∧ KeyIn B w v2 r.hi
theorem RangeIn.at {B : Nat} {w : World} {v : Value} {r : Rg} (h : RangeIn B w v r) (hB : B ≤ w.heap.size) : RangeAt w v r := by
  obtain ⟨v1, v2, rfl, h1, h2⟩ := h.is
  exact ⟨v1, v2, rfl, h1.at hB, h2.at hB⟩
theorem RangeAt.in {w : World} {v : Value} {r : Rg} (h : RangeAt w v r) : RangeIn w.heap.size w v r := by
  obtain ⟨v1, v2, rfl, h1, h2⟩ := h.is
  exact ⟨v1, v2, rfl, h1.in, h2.in⟩
theorem RangeIn.below {B : Nat} {w w' : World} {v : Value} {r : Rg} (h : RangeIn B w v r) (hb : Below B w w') : RangeIn B w' v r := by
  obtain ⟨v1, v2, rfl, h1, h2⟩ := h.is
  exact ⟨v1, v2, rfl, h1.below hb, h2.below hb⟩
theorem KeyIn.form {B : Nat} {w : World} {v : Value} {ks : Key} (h : KeyIn B w v ks) : ∃ a c, v = .slice a ks.length c := by
  obtain ⟨a, c, h, _⟩ := h.is; exact ⟨a, c, h⟩

def Rg.stretch (r o : Rg) : Rg := if !r.all && (o.all || decide (r.hi < o.hi)) then ⟨r.lo, o.hi, o.all⟩ else r

set_option maxHeartbeats 1600000 in
set_option maxRecDepth 100000 in
theorem stretch_any {B : Nat} {w : World} {v u : Value} {r o : Rg} (hB : B ≤ w.heap.size) (h : RangeIn B w v r) (hu : RangeIn B w u o) :
    Calls Try.prog 48 #[v, u] w fun e w' => ∃ v', e = .returned v' ∧ RangeIn B w' v' (r.stretch o) ∧ Below w.heap.size w w' := by
  obtain ⟨v1, v2, rfl, h1, h2⟩ := h.is
  obtain ⟨u1, u2, rfl, h3, h4⟩ := hu.is
  obtain ⟨lo, hi, all⟩ := r
  obtain ⟨lo', hi', all'⟩ := o
  obtain ⟨a1, c1, rfl⟩ := h1.form
  obtain ⟨a2, c2, rfl⟩ := h2.form
  obtain ⟨a3, c3, rfl⟩ := h3.form
  obtain ⟨a4, c4, rfl⟩ := h4.form
  simp only at *
  have HK1 : Hid (KeyIn B w (.slice a1 lo.length c1) lo) := h1
  have HK2 : Hid (KeyIn B w (.slice a2 hi.length c2) hi) := h2
  have HK4 : Hid (KeyIn B w (.slice a4 hi'.length c4) hi') := h4
  clear h hu h1 h2 h3 h4
  obtain ⟨W, hW⟩ : ∃ W, W = ((w.alloc (.cells #[.slice a1 lo.length c1, .slice a2 hi.length c2, .bool all] 36)).alloc (.cells #[.slice a3 lo'.length c3, .slice a4 hi'.length c4, .bool all'] 36)).alloc (.cells #[.slice none 0 0, .slice none 0 0, .bool false] 36) := ⟨_, rfl⟩
  have HBW : Hid (Below w.heap.size w W) := by rw [hW]; exact ((below_new w _).alloc (by simp) _).alloc (by simp; omega) _
  have hx0 : Box W w.heap.size (.slice a1 lo.length c1) (.slice a2 hi.length c2) (.bool all) := by rw [hW]; exact ((Box.new w _ _ _).alloc _).alloc _
  have hx1 : Box W (w.heap.size + 1) (.slice a3 lo'.length c3) (.slice a4 hi'.length c4) (.bool all') := by
    rw [hW]
    have := (Box.new (w.alloc (.cells #[.slice a1 lo.length c1, .slice a2 hi.length c2, .bool all] 36)) (.slice a3 lo'.length c3) (.slice a4 hi'.length c4) (.bool all')).alloc (.cells #[.slice none 0 0, .slice none 0 0, .bool false] 36)
    simpa using this
  have hx2 : Box W (w.heap.size + 2) (.slice none 0 0) (.slice none 0 0) (.bool false) := by
    rw [hW]
    have := Box.new ((w.alloc (.cells #[.slice a1 lo.length c1, .slice a2 hi.length c2, .bool all] 36)).alloc (.cells #[.slice a3 lo'.length c3, .slice a4 hi'.length c4, .bool all'] 36)) (.slice none 0 0) (.slice none 0 0) (.bool false)
    simpa using this
  have HX0 : Hid _ := hx0
  have HX1 : Hid _ := hx1
  have HX2 : Hid _ := hx2
  have HCO := compare_key ((HK2.out.at hB).here HBW.out) ((HK4.out.at hB).here HBW.out)
  obtain ⟨k0, k1, k2⟩ := hx0.cells
  obtain ⟨kf0, kf1, kf2⟩ := hx0.open
  obtain ⟨m0, m1, m2⟩ := hx1.cells
  obtain ⟨r0, r1, r2⟩ := hx2.cells
  obtain ⟨g0, g1, g2⟩ := hx2.open
  have HEND : Hid (∀ W' (x2 z : Value) (hi2 : Key) (all2 : Bool), z = .bool all2 → Below w.heap.size w W' → KeyIn B w x2 hi2 → Box W' (w.heap.size + 2) (.slice none 0 0) (.slice none 0 0) (.bool false) → (⟨lo, hi2, all2⟩ : Rg) = Rg.stretch ⟨lo, hi, all⟩ ⟨lo', hi', all'⟩ →
      (RangeIn B (put3 W' (w.heap.size + 2) (.slice a1 lo.length c1) x2 z) (.agg #[.slice a1 lo.length c1, x2, z]) (Rg.stretch ⟨lo, hi, all⟩ ⟨lo', hi', all'⟩) ∧ Below w.heap.size w (put3 W' (w.heap.size + 2) (.slice a1 lo.length c1) x2 z))) := by
    intro W' x2 z hi2 all2 hz hb hk hbx heq
    subst hz
    have hb' := put3_below hb (show w.heap.size ≤ w.heap.size + 2 by omega) (.slice a1 lo.length c1) x2 (.bool all2)
    refine ⟨?_, hb'⟩
    rw [← heq]
    exact ⟨_, _, rfl, HK1.out.below (hb'.mono hB), hk.below (hb'.mono hB)⟩
  clear hx0 hx1 hx2
  cases all with
  | true =>
    go_enter Try.func48, Try.ntmps48
    go_upto_region 1 with fail
    rw [← hW]
    clear hW
    go_wp2
    obtain ⟨e1, e2⟩ := HEND.out W (.slice a2 hi.length c2) (.bool true) hi true rfl HBW.out HK2.out HX2.out (by simp [Rg.stretch])
    exact bodyPost_ret (ret_box rfl rfl (put3_box HX2.out)) rfl ⟨_, rfl, e1, e2⟩
  | false =>
    cases all' with
    | true =>
      go_enter Try.func48, Try.ntmps48
      go_upto_region 1 with fail
      rw [← hW]
      clear hW
      go_wp2
      go_region
      all_goals
        obtain ⟨W1, hW1⟩ : ∃ W1, W1 = ((W.setCell ⟨w.heap.size, 1, none⟩ (.slice a4 hi'.length c4)).setCell ⟨w.heap.size, 2, none⟩ (.bool true)).drew := ⟨_, rfl⟩
        rw [← hW1]
        have hx0 : Box W1 w.heap.size (.slice a1 lo.length c1) (.slice a4 hi'.length c4) (.bool true) := by rw [hW1]; exact ⟨((HX0.out.set1 _).set2 _).row⟩
        have hx2 : Box W1 (w.heap.size + 2) (.slice none 0 0) (.slice none 0 0) (.bool false) := by rw [hW1]; exact ⟨((HX2.out.other _ (by omega)).other _ (by omega)).row⟩
        have HB1 : Hid (Below w.heap.size w W1) := by rw [hW1]; exact ((HBW.out.setCell (Nat.le_refl _) _).setCell (Nat.le_refl _) _).drew
        have HY2 : Hid _ := hx2
        clear hW1 k0 k1 k2 kf0 kf1 kf2 m0 m1 m2 r0 r1 r2 g0 g1 g2
        obtain ⟨k0, k1, k2⟩ := hx0.cells
        obtain ⟨r0, r1, r2⟩ := hx2.cells
        obtain ⟨g0, g1, g2⟩ := hx2.open
        clear hx0 hx2
        go_wp2
        obtain ⟨e1, e2⟩ := HEND.out W1 (.slice a4 hi'.length c4) (.bool true) hi' true rfl HB1.out HK4.out HY2.out (by simp [Rg.stretch])
        exact bodyPost_ret (ret_box rfl rfl (put3_box HY2.out)) rfl ⟨_, rfl, e1, e2⟩
    | false =>
      by_cases hlt : hi < hi'
      · have hz : cmpK hi hi' < 0 := cmpK_lt.2 hlt
        go_enter Try.func48, Try.ntmps48
        go_upto_region 1 with fail
        rw [← hW]
        clear hW
        go_wp2_with (go_at_call 22; refine HCO.mono ?_; rintro e w' ⟨rfl, q, rfl⟩)
        go_region
        all_goals
          obtain ⟨W1, hW1⟩ : ∃ W1, W1 = ((W.drewN (q + 1)).setCell ⟨w.heap.size, 1, none⟩ (.slice a4 hi'.length c4)).setCell ⟨w.heap.size, 2, none⟩ (.bool false) := ⟨_, rfl⟩
          rw [← hW1]
          have hx0 : Box W1 w.heap.size (.slice a1 lo.length c1) (.slice a4 hi'.length c4) (.bool false) := by rw [hW1]; exact (Box.set1 (w := W.drewN (q + 1)) ⟨HX0.out.row⟩ _).set2 _
          have hx2 : Box W1 (w.heap.size + 2) (.slice none 0 0) (.slice none 0 0) (.bool false) := by rw [hW1]; exact (Box.other (w := W.drewN (q + 1)) ⟨HX2.out.row⟩ _ (by omega)).other _ (by omega)
          have HB1 : Hid (Below w.heap.size w W1) := by rw [hW1]; exact ((below_draws HBW.out _).setCell (Nat.le_refl _) _).setCell (Nat.le_refl _) _
          have HY2 : Hid _ := hx2
          clear hW1 k0 k1 k2 kf0 kf1 kf2 m0 m1 m2 r0 r1 r2 g0 g1 g2
          obtain ⟨k0, k1, k2⟩ := hx0.cells
          obtain ⟨r0, r1, r2⟩ := hx2.cells
          obtain ⟨g0, g1, g2⟩ := hx2.open
          clear hx0 hx2
          go_wp2
          obtain ⟨e1, e2⟩ := HEND.out W1 (.slice a4 hi'.length c4) (.bool false) hi' false rfl HB1.out HK4.out HY2.out (by simp [Rg.stretch, hlt])
          exact bodyPost_ret (ret_box rfl rfl (put3_box HY2.out)) rfl ⟨_, rfl, e1, e2⟩
      · have hz : ¬ cmpK hi hi' < 0 := fun h => hlt (cmpK_lt.1 h)
        go_enter Try.func48, Try.ntmps48
        go_upto_region 1 with fail
        rw [← hW]
        clear hW
        go_wp2_with (go_at_call 22; refine HCO.mono ?_; rintro e w' ⟨rfl, q, rfl⟩)
        obtain ⟨e1, e2⟩ := HEND.out (W.drewN q) (.slice a2 hi.length c2) (.bool false) hi false rfl (below_draws HBW.out q) HK2.out ⟨HX2.out.row⟩ (by simp [Rg.stretch, hlt])
        exact bodyPost_ret (ret_box rfl rfl (put3_box ⟨HX2.out.row⟩)) rfl ⟨_, rfl, e1, e2⟩
end Go.Proofs.Ytphohkchffcjeaa
