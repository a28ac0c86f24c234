/- Inside, Minus, Next, Between. -/
import Derived.Test.YtphohkchffcjeaaMinus
namespace Go.Proofs.Ytphohkchffcjeaa
open Go.RowKit

/-- No key of the one lies in a block of the other one's. -/
def Apart (x y : Value) : Prop := ∀ v1 v2 b u1 u2 c, x = .agg #[v1, v2, b] → y = .agg #[u1, u2, c] → ∀ k, (v1.ownBlock = some k ∨ v2.ownBlock = some k) → ¬ (u1.ownBlock = some k ∨ u2.ownBlock = some k)
theorem Apart.symm {x y : Value} (h : Apart x y) : Apart y x := fun v1 v2 b u1 u2 c hx hy k h1 h2 => h u1 u2 c v1 v2 b hy hx k h2 h1
theorem NewRange.below {base : Nat} {w : World} {v1 v2 b : Value} {r : Rg} (h : NewRange base w (.agg #[v1, v2, b]) r) {k : Nat} (hk : v1.ownBlock = some k ∨ v2.ownBlock = some k) : k < w.heap.size ∧ base ≤ k := by
  obtain ⟨u1, u2, e, h1, h2, _⟩ := h.is
  cases e
  rcases hk with hk | hk
  · have := own_type h1.own k hk; exact ⟨this.1, this.2.1⟩
  · have := own_type h2.own k hk; exact ⟨this.1, this.2.1⟩
theorem NewRange.apart {base base' : Nat} {w w' : World} {x y : Value} {r o : Rg} (h : NewRange base w x r) (h' : NewRange base' w' y o) (hb : w.heap.size ≤ base') : Apart x y := fun v1 v2 b u1 u2 c hx hy k h1 h2 => by
  subst hx hy
  have := (h.below h1).1
  have := (h'.below h2).2
  omega
theorem NewRange.mono {base base' : Nat} {w : World} {v : Value} {r : Rg} (h : NewRange base w v r) (hb : base' ≤ base) : NewRange base' w v r := by
  obtain ⟨v1, v2, rfl, h1, h2, h3⟩ := h.is
  exact ⟨v1, v2, rfl, h1.mono hb, h2.mono hb, h3⟩
theorem zero_key {B : Nat} {w : World} : KeyIn B w (.slice none 0 0) [] := ⟨⟨none, 0, rfl, fun j c hj => by simp at hj, Nat.le_refl _, fun _ => rfl⟩, by decide⟩
theorem ret_boxes {fn : Func} {p q : Tmp} (h : fn.results = #[.cell p 36, .cell q 36]) {tmps : Array Value} {w : World} {b c : Nat} {x y z x' y' z' : Value} (hp : tmps.getD p undef = .pointer (some ⟨b, 0, none⟩)) (hq : tmps.getD q undef = .pointer (some ⟨c, 0, none⟩)) (hB : Box w b x y z) (hC : Box w c x' y' z') :
    (results fn tmps).run Try.prog w = .ok (.tuple #[.agg #[x, y, z], .agg #[x', y', z']]) w := by
  have e1 := run_loadVar_row (P := Try.prog) w b 36 36 #[x, y, z] (0, 0) _ hB.row Try.underlying36 rfl info36
  have e2 := run_loadVar_row (P := Try.prog) w c 36 36 #[x', y', z'] (0, 0) _ hC.row Try.underlying36 rfl info36
  have hp' : tmps[p]?.getD undef = .pointer (some ⟨b, 0, none⟩) := by simpa using hp
  have hq' : tmps[q]?.getD undef = .pointer (some ⟨c, 0, none⟩) := by simpa using hq
  simp [results, h, hp', hq', asAddr, e1, e2]

/-- The six boxes of Minus, the last two as they stand. -/
structure Six (w : World) (n : Nat) (a b x y : Value × Value × Value) : Prop where
  b0 : Box w n a.1 a.2.1 a.2.2
  b1 : Box w (n + 1) b.1 b.2.1 b.2.2
  b2 : Box w (n + 2) (.slice none 0 0) (.slice none 0 0) (.bool false)
  b3 : Box w (n + 3) (.slice none 0 0) (.slice none 0 0) (.bool false)
  b4 : Box w (n + 4) x.1 x.2.1 x.2.2
  b5 : Box w (n + 5) y.1 y.2.1 y.2.2
theorem Six.here {w w' : World} {n : Nat} {a b x y : Value × Value × Value} (h : Six w n a b x y) (hb : Below w.heap.size w w') : Six w' n a b x y :=
  ⟨h.b0.here hb, h.b1.here hb, h.b2.here hb, h.b3.here hb, h.b4.here hb, h.b5.here hb⟩
theorem Box.put3' {w : World} {b c : Nat} {x y z x' y' z' : Value} (h : Box w b x y z) (hc : b ≠ c) : Box (put3 w c x' y' z') b x y z := ⟨by rw [put3_other _ _ _ hc]; exact h.row⟩
theorem Six.put4 {w : World} {n : Nat} {a b x y : Value × Value × Value} (h : Six w n a b x y) (x' : Value × Value × Value) : Six (put3 w (n + 4) x'.1 x'.2.1 x'.2.2) n a b x' y :=
  ⟨h.b0.put3' (by omega), h.b1.put3' (by omega), h.b2.put3' (by omega), h.b3.put3' (by omega), put3_box h.b4, h.b5.put3' (by omega)⟩
theorem Six.put5 {w : World} {n : Nat} {a b x y : Value × Value × Value} (h : Six w n a b x y) (y' : Value × Value × Value) : Six (put3 w (n + 5) y'.1 y'.2.1 y'.2.2) n a b x y' :=
  ⟨h.b0.put3' (by omega), h.b1.put3' (by omega), h.b2.put3' (by omega), h.b3.put3' (by omega), h.b4.put3' (by omega), put3_box h.b5⟩

def zeroT : Value × Value × Value := (.slice none 0 0, .slice none 0 0, .bool false)
theorem alloc_size (w : World) (o : Obj) : (w.alloc o).heap.size = w.heap.size + 1 := by simp
theorem six_new (w : World) (a b : Value × Value × Value) : Six ((((((w.alloc (.cells #[a.1, a.2.1, a.2.2] 36)).alloc (.cells #[b.1, b.2.1, b.2.2] 36)).alloc (.cells #[.slice none 0 0, .slice none 0 0, .bool false] 36)).alloc (.cells #[.slice none 0 0, .slice none 0 0, .bool false] 36)).alloc (.cells #[.slice none 0 0, .slice none 0 0, .bool false] 36)).alloc (.cells #[.slice none 0 0, .slice none 0 0, .bool false] 36)) w.heap.size a b zeroT zeroT := by
  have key : ∀ (W : World) (n : Nat) (x y z : Value), W.heap.size = n → Box (W.alloc (.cells #[x, y, z] 36)) n x y z := fun W n x y z h => by subst h; exact Box.new W x y z
  refine ⟨?_, ?_, ?_, ?_, ?_, ?_⟩
  · exact (((((key w _ _ _ _ rfl).alloc _).alloc _).alloc _).alloc _).alloc _
  · exact ((((key _ _ _ _ _ (by simp)).alloc _).alloc _).alloc _).alloc _
  · exact (((key _ _ _ _ _ (by simp)).alloc _).alloc _).alloc _
  · exact ((key _ _ _ _ _ (by simp)).alloc _).alloc _
  · exact (key _ _ _ _ _ (by simp)).alloc _
  · exact key _ _ _ _ _ (by simp)

theorem NewKey.draws {base : Nat} {w : World} {v : Value} {k : Key} (h : NewKey base w v k) : NewKey base w.drew v k := h.here ((Below.refl _ _).drew)
theorem NewRange.drew {base : Nat} {w : World} {v : Value} {r : Rg} (h : NewRange base w v r) : NewRange base w.drew v r := h.here ((Below.refl _ _).drew)
theorem minus_end {w0 w : World} {a b : Value × Value × Value} {x1 x2 x3 y1 y2 y3 : Value} {r o : Rg} (h : Six w w0.heap.size a b (x1, x2, x3) (y1, y2, y3)) (hx : NewRange w0.heap.size w (.agg #[x1, x2, x3]) r) (hy : NewRange w0.heap.size w (.agg #[y1, y2, y3]) o) (hb : Below w0.heap.size w0 w) :
    Box (put3 (put3 w (w0.heap.size + 2) x1 x2 x3) (w0.heap.size + 3) y1 y2 y3).drew (w0.heap.size + 2) x1 x2 x3 ∧ Box (put3 (put3 w (w0.heap.size + 2) x1 x2 x3) (w0.heap.size + 3) y1 y2 y3).drew (w0.heap.size + 3) y1 y2 y3 ∧
    NewRange w0.heap.size (put3 (put3 w (w0.heap.size + 2) x1 x2 x3) (w0.heap.size + 3) y1 y2 y3).drew (.agg #[x1, x2, x3]) r ∧ NewRange w0.heap.size (put3 (put3 w (w0.heap.size + 2) x1 x2 x3) (w0.heap.size + 3) y1 y2 y3).drew (.agg #[y1, y2, y3]) o ∧
    Below w0.heap.size w0 (put3 (put3 w (w0.heap.size + 2) x1 x2 x3) (w0.heap.size + 3) y1 y2 y3).drew := by
  have h3 : Box (put3 w (w0.heap.size + 2) x1 x2 x3) (w0.heap.size + 3) (.slice none 0 0) (.slice none 0 0) (.bool false) := h.b3.put3' (by omega)
  have e1 : Box (put3 (put3 w (w0.heap.size + 2) x1 x2 x3) (w0.heap.size + 3) y1 y2 y3) (w0.heap.size + 2) x1 x2 x3 := (put3_box h.b2).put3' (by omega)
  have e2 : Box (put3 (put3 w (w0.heap.size + 2) x1 x2 x3) (w0.heap.size + 3) y1 y2 y3) (w0.heap.size + 3) y1 y2 y3 := put3_box h3
  have e5 : Below w0.heap.size w0 (put3 (put3 w (w0.heap.size + 2) x1 x2 x3) (w0.heap.size + 3) y1 y2 y3) := put3_below (put3_below hb (by omega) _ _ _) (by omega) _ _ _
  refine ⟨e1.here ((Below.refl _ _).drew), e2.here ((Below.refl _ _).drew), ?_, ?_, e5.drew⟩
  · exact ((hx.put3 h.b2 (Nat.le_refl _) _ _ _).put3 h3 (Nat.le_refl _) _ _ _).drew
  · exact ((hy.put3 h.b2 (Nat.le_refl _) _ _ _).put3 h3 (Nat.le_refl _) _ _ _).drew

set_option maxHeartbeats 1600000 in
set_option maxRecDepth 100000 in
theorem minus_any {w : World} {v u : Value} {r o : Rg} (h : RangeAt w v r) (hu : RangeAt w u o) :
    Calls Try.prog 26 #[v, u] w fun e w' => ∃ x y, e = .returned (.tuple #[x, y]) ∧ NewRange w.heap.size w' x (r.ahead o) ∧ NewRange w.heap.size w' y (r.behind o) ∧ Apart x y ∧ Below w.heap.size w w' := by
  have HR : Hid (RangeAt w v r) := h
  have HO : Hid (RangeAt w u o) := hu
  obtain ⟨v1, v2, rfl, h1, h2⟩ := h.in.is
  obtain ⟨u1, u2, rfl, h3, h4⟩ := hu.in.is
  obtain ⟨a1, c1, rfl⟩ := h1.form
  obtain ⟨a2, c2, rfl⟩ := h2.form
  obtain ⟨a3, c3, rfl⟩ := h3.form
  obtain ⟨a4, c4, rfl⟩ := h4.form
  have HK3 : Hid (KeyIn w.heap.size w (.slice a3 o.lo.length c3) o.lo) := h3
  have HK4 : Hid (KeyIn w.heap.size w (.slice a4 o.hi.length c4) o.hi) := h4
  clear h hu h1 h2 h3 h4
  have hsix := six_new w (.slice a1 r.lo.length c1, .slice a2 r.hi.length c2, .bool r.all) (.slice a3 o.lo.length c3, .slice a4 o.hi.length c4, .bool o.all)
  obtain ⟨W, hW⟩ : ∃ W, W = ((((((w.alloc (.cells #[.slice a1 r.lo.length c1, .slice a2 r.hi.length c2, .bool r.all] 36)).alloc (.cells #[.slice a3 o.lo.length c3, .slice a4 o.hi.length c4, .bool o.all] 36)).alloc (.cells #[.slice none 0 0, .slice none 0 0, .bool false] 36)).alloc (.cells #[.slice none 0 0, .slice none 0 0, .bool false] 36)).alloc (.cells #[.slice none 0 0, .slice none 0 0, .bool false] 36)).alloc (.cells #[.slice none 0 0, .slice none 0 0, .bool false] 36)) := ⟨_, rfl⟩
  rw [← hW] at hsix
  have HBW : Hid (Below w.heap.size w W) := by rw [hW]; exact (((((below_new w _).alloc (by simp) _).alloc (by simp; omega) _).alloc (by simp; omega) _).alloc (by simp; omega) _).alloc (by simp; omega) _
  have HSIX : Hid _ := hsix
  have HE := empty_any (HO.out.here HBW.out)
  obtain ⟨k0, k1, k2⟩ := hsix.b0.cells
  obtain ⟨m0, m1, m2⟩ := hsix.b1.cells
  clear hsix
  simp only at k0 k1 k2 m0 m1 m2
  go_enter Try.func26, Try.ntmps26
  go_upto_region 2 with fail
  rw [← hW]
  clear hW
  go_wp2_with fail
  refine HE.mono ?_
  rintro e W1 ⟨rfl, hb1⟩
  have HS1 : Hid _ := HSIX.out.here hb1
  have HB1 : Hid (Below w.heap.size w W1) := HBW.out.trans (hb1.mono HBW.out.size)
  clear HE hb1 k0 k1 k2 m0 m1 m2
  obtain ⟨k0, k1, k2⟩ := HS1.out.b0.cells
  obtain ⟨m0, m1, m2⟩ := HS1.out.b1.cells
  simp only at k0 k1 k2 m0 m1 m2
  cases he : o.empty with
  | true =>
    have HA : Hid (r.ahead o = r.form) := by simp [Hid, Rg.ahead, he]
    have HZ : Hid (r.behind o = Rg.zero) := by simp [Hid, Rg.behind, he]
    go_wp2_with fail
    refine (form_any (HR.out.here HB1.out)).mono ?_
    rintro e W2 ⟨x, rfl, hx, hb2⟩
    obtain ⟨b1, d1, b2, d2, rfl⟩ := hx.slices
    have HS2 : Hid _ := HS1.out.here hb2
    have HB2 : Hid (Below w.heap.size w W2) := HB1.out.trans (hb2.mono HB1.out.size)
    have HX : Hid _ := hx
    clear hb2 hx k0 k1 k2 m0 m1 m2
    obtain ⟨k0, k1, k2⟩ := HS2.out.b4.cells
    obtain ⟨f0, f1, f2⟩ := HS2.out.b4.open
    simp only [zeroT] at k0 k1 k2
    go_wp2_with fail
    obtain ⟨W3, hW3⟩ : ∃ W3, W3 = put3 W2 (w.heap.size + 4) (.slice b1 r.form.lo.length d1) (.slice b2 r.form.hi.length d2) (.bool r.form.all) := ⟨_, rfl⟩
    have HS3 : Hid (Six W3 w.heap.size (.slice a1 r.lo.length c1, .slice a2 r.hi.length c2, .bool r.all) (.slice a3 o.lo.length c3, .slice a4 o.hi.length c4, .bool o.all) (.slice b1 r.form.lo.length d1, .slice b2 r.form.hi.length d2, .bool r.form.all) zeroT) := by rw [hW3]; exact HS2.out.put4 (.slice b1 r.form.lo.length d1, .slice b2 r.form.hi.length d2, .bool r.form.all)
    have HB3 : Hid (Below w.heap.size w W3) := by rw [hW3]; exact put3_below HB2.out (by omega) _ _ _
    have HX3 : Hid (NewRange w.heap.size W3 (.agg #[.slice b1 r.form.lo.length d1, .slice b2 r.form.hi.length d2, .bool r.form.all]) (r.ahead o)) := by rw [HA.out, hW3]; exact HX.out.put3 HS2.out.b4 HB1.out.size _ _ _
    have HY3 : Hid (NewRange w.heap.size W3 (.agg #[.slice none 0 0, .slice none 0 0, .bool false]) (r.behind o)) := by rw [HZ.out]; exact NewRange.zero _ _
    have HAP : Hid (Apart (.agg #[.slice b1 r.form.lo.length d1, .slice b2 r.form.hi.length d2, .bool r.form.all]) (.agg #[.slice none 0 0, .slice none 0 0, .bool false])) := HX.out.apart (NewRange.zero _ W2) (Nat.le_refl _)
    change Code.wp _ _ _ _ (put3 W2 (w.heap.size + 4) (.slice b1 r.form.lo.length d1) (.slice b2 r.form.hi.length d2) (.bool r.form.all))
    rw [← hW3]
    clear hW3
    clear k0 k1 k2 f0 f1 f2
    obtain ⟨k0, k1, k2⟩ := HS3.out.b4.cells
    obtain ⟨m0, m1, m2⟩ := HS3.out.b5.cells
    obtain ⟨p0, p1, p2⟩ := HS3.out.b2.cells
    obtain ⟨f0, f1, f2⟩ := HS3.out.b2.open
    obtain ⟨q0, q1, q2⟩ := HS3.out.b3.cells
    obtain ⟨g0, g1, g2⟩ := HS3.out.b3.open
    simp only [zeroT] at k0 k1 k2 m0 m1 m2
    go_region
    all_goals
      go_wp2
      obtain ⟨e1, e2, e3, e4, e5⟩ := minus_end HS3.out HX3.out HY3.out HB3.out
      exact bodyPost_ret (ret_boxes rfl rfl rfl e1 e2) rfl ⟨_, _, rfl, e3, e4, HAP.out, e5⟩
  | false =>
    have HA : Hid (r.ahead o = r.meet ⟨[], o.lo, false⟩) := by simp [Hid, Rg.ahead, he]
    cases ho : o.all with
    | true =>
      have HZ : Hid (r.behind o = Rg.zero) := by simp [Hid, Rg.behind, ho]
      have HSV : Hid _ := HS1.out
      have HBV : Hid (Below w.heap.size w W1) := HB1.out
      have HYV : Hid (NewRange w.heap.size W1 (.agg #[.slice none 0 0, .slice none 0 0, .bool false]) (r.behind o)) := by rw [HZ.out]; exact NewRange.zero _ _
      rw [ho] at m2
      clear he ho
      go_wp2_with fail
      refine (meet_any (HR.out.here HBV.out) (o := ⟨[], o.lo, false⟩) ⟨_, _, rfl, KeyAt.nil _, HK3.out.later rfl HBV.out⟩).mono ?_
      rintro e W2 ⟨x, rfl, hx, hb2⟩
      obtain ⟨b1, d1, b2, d2, rfl⟩ := hx.slices
      have HAP : Hid (Apart (.agg #[.slice b1 (r.meet ⟨[], o.lo, false⟩).lo.length d1, .slice b2 (r.meet ⟨[], o.lo, false⟩).hi.length d2, .bool (r.meet ⟨[], o.lo, false⟩).all]) (.agg #[.slice none 0 0, .slice none 0 0, .bool false])) := (HYV.out.apart hx (Nat.le_refl _)).symm
      have HS2 : Hid _ := HSV.out.here hb2
      have HB2 : Hid (Below w.heap.size w W2) := HBV.out.trans (hb2.mono HBV.out.size)
      have HX : Hid (NewRange w.heap.size W2 (.agg #[.slice b1 (r.meet ⟨[], o.lo, false⟩).lo.length d1, .slice b2 (r.meet ⟨[], o.lo, false⟩).hi.length d2, .bool (r.meet ⟨[], o.lo, false⟩).all]) (r.ahead o)) := by rw [HA.out]; exact hx.mono HBV.out.size
      have HY : Hid (NewRange w.heap.size W2 (.agg #[.slice none 0 0, .slice none 0 0, .bool false]) (r.behind o)) := HYV.out.here hb2
      clear hb2 hx k0 k1 k2 m0 m1 m2
      obtain ⟨k0, k1, k2⟩ := HS2.out.b4.cells
      obtain ⟨f0, f1, f2⟩ := HS2.out.b4.open
      simp only [zeroT] at k0 k1 k2
      go_wp2_with fail
      obtain ⟨W3, hW3⟩ : ∃ W3, W3 = put3 W2 (w.heap.size + 4) (.slice b1 (r.meet ⟨[], o.lo, false⟩).lo.length d1) (.slice b2 (r.meet ⟨[], o.lo, false⟩).hi.length d2) (.bool (r.meet ⟨[], o.lo, false⟩).all) := ⟨_, rfl⟩
      have HS3 : Hid (Six W3 w.heap.size (.slice a1 r.lo.length c1, .slice a2 r.hi.length c2, .bool r.all) (.slice a3 o.lo.length c3, .slice a4 o.hi.length c4, .bool o.all) (.slice b1 (r.meet ⟨[], o.lo, false⟩).lo.length d1, .slice b2 (r.meet ⟨[], o.lo, false⟩).hi.length d2, .bool (r.meet ⟨[], o.lo, false⟩).all) (.slice none 0 0, .slice none 0 0, .bool false)) := by rw [hW3]; exact HS2.out.put4 (.slice b1 (r.meet ⟨[], o.lo, false⟩).lo.length d1, .slice b2 (r.meet ⟨[], o.lo, false⟩).hi.length d2, .bool (r.meet ⟨[], o.lo, false⟩).all)
      have HB3 : Hid (Below w.heap.size w W3) := by rw [hW3]; exact put3_below HB2.out (by omega) _ _ _
      have HX3 : Hid (NewRange w.heap.size W3 (.agg #[.slice b1 (r.meet ⟨[], o.lo, false⟩).lo.length d1, .slice b2 (r.meet ⟨[], o.lo, false⟩).hi.length d2, .bool (r.meet ⟨[], o.lo, false⟩).all]) (r.ahead o)) := by rw [hW3]; exact HX.out.put3 HS2.out.b4 (Nat.le_refl _) _ _ _
      have HY3 : Hid (NewRange w.heap.size W3 (.agg #[.slice none 0 0, .slice none 0 0, .bool false]) (r.behind o)) := by rw [hW3]; exact HY.out.put3 HS2.out.b4 (Nat.le_refl _) _ _ _
      change Code.wp _ _ _ _ (put3 W2 (w.heap.size + 4) (.slice b1 (r.meet ⟨[], o.lo, false⟩).lo.length d1) (.slice b2 (r.meet ⟨[], o.lo, false⟩).hi.length d2) (.bool (r.meet ⟨[], o.lo, false⟩).all))
      rw [← hW3]
      clear hW3
      clear k0 k1 k2 f0 f1 f2
      obtain ⟨k0, k1, k2⟩ := HS3.out.b4.cells
      obtain ⟨m0, m1, m2⟩ := HS3.out.b5.cells
      obtain ⟨p0, p1, p2⟩ := HS3.out.b2.cells
      obtain ⟨f0, f1, f2⟩ := HS3.out.b2.open
      obtain ⟨q0, q1, q2⟩ := HS3.out.b3.cells
      obtain ⟨g0, g1, g2⟩ := HS3.out.b3.open
      simp only at k0 k1 k2 m0 m1 m2
      go_region
      all_goals
        go_wp2
        obtain ⟨e1, e2, e3, e4, e5⟩ := minus_end HS3.out HX3.out HY3.out HB3.out
        exact bodyPost_ret (ret_boxes rfl rfl rfl e1 e2) rfl ⟨_, _, rfl, e3, e4, HAP.out, e5⟩
    | false =>
      have HZ : Hid (r.behind o = r.meet ⟨o.hi, [], true⟩) := by simp [Hid, Rg.behind, he, ho]
      rw [ho] at m2
      clear he ho
      go_wp2_with fail
      refine (meet_any (HR.out.here HB1.out) (o := ⟨o.hi, [], true⟩) ⟨_, _, rfl, HK4.out.later rfl HB1.out, KeyAt.nil _⟩).mono ?_
      rintro e V1 ⟨y, rfl, hy, hb2⟩
      obtain ⟨g1, h1, g2, h2, rfl⟩ := hy.slices
      have HS2' : Hid _ := HS1.out.here hb2
      have HB2' : Hid (Below w.heap.size w V1) := HB1.out.trans (hb2.mono HB1.out.size)
      have HYN : Hid (NewRange w.heap.size V1 (.agg #[.slice g1 (r.meet ⟨o.hi, [], true⟩).lo.length h1, .slice g2 (r.meet ⟨o.hi, [], true⟩).hi.length h2, .bool (r.meet ⟨o.hi, [], true⟩).all]) (r.behind o)) := by rw [HZ.out]; exact hy.mono HB1.out.size
      clear hb2 hy k0 k1 k2 m0 m1 m2
      obtain ⟨k0, k1, k2⟩ := HS2'.out.b5.cells
      obtain ⟨f0, f1, f2⟩ := HS2'.out.b5.open
      simp only [zeroT] at k0 k1 k2
      go_upto_region 6 with fail
      obtain ⟨V, hV⟩ : ∃ V, V = put3 V1 (w.heap.size + 5) (.slice g1 (r.meet ⟨o.hi, [], true⟩).lo.length h1) (.slice g2 (r.meet ⟨o.hi, [], true⟩).hi.length h2) (.bool (r.meet ⟨o.hi, [], true⟩).all) := ⟨_, rfl⟩
      have HSV : Hid (Six V w.heap.size (.slice a1 r.lo.length c1, .slice a2 r.hi.length c2, .bool r.all) (.slice a3 o.lo.length c3, .slice a4 o.hi.length c4, .bool o.all) zeroT (.slice g1 (r.meet ⟨o.hi, [], true⟩).lo.length h1, .slice g2 (r.meet ⟨o.hi, [], true⟩).hi.length h2, .bool (r.meet ⟨o.hi, [], true⟩).all)) := by rw [hV]; exact HS2'.out.put5 (.slice g1 (r.meet ⟨o.hi, [], true⟩).lo.length h1, .slice g2 (r.meet ⟨o.hi, [], true⟩).hi.length h2, .bool (r.meet ⟨o.hi, [], true⟩).all)
      have HBV : Hid (Below w.heap.size w V) := by rw [hV]; exact put3_below HB2'.out (by omega) _ _ _
      have HYV : Hid (NewRange w.heap.size V (.agg #[.slice g1 (r.meet ⟨o.hi, [], true⟩).lo.length h1, .slice g2 (r.meet ⟨o.hi, [], true⟩).hi.length h2, .bool (r.meet ⟨o.hi, [], true⟩).all]) (r.behind o)) := by rw [hV]; exact HYN.out.put3 HS2'.out.b5 (Nat.le_refl _) _ _ _
      change Code.wp _ _ _ _ (put3 V1 (w.heap.size + 5) (.slice g1 (r.meet ⟨o.hi, [], true⟩).lo.length h1) (.slice g2 (r.meet ⟨o.hi, [], true⟩).hi.length h2) (.bool (r.meet ⟨o.hi, [], true⟩).all))
      rw [← hV]
      clear hV k0 k1 k2 f0 f1 f2
      obtain ⟨k0, k1, k2⟩ := HSV.out.b0.cells
      obtain ⟨m0, m1, m2⟩ := HSV.out.b1.cells
      simp only at k0 k1 k2 m0 m1 m2
      go_wp2_with fail
      refine (meet_any (HR.out.here HBV.out) (o := ⟨[], o.lo, false⟩) ⟨_, _, rfl, KeyAt.nil _, HK3.out.later rfl HBV.out⟩).mono ?_
      rintro e W2 ⟨x, rfl, hx, hb2⟩
      obtain ⟨b1, d1, b2, d2, rfl⟩ := hx.slices
      have HAP : Hid (Apart (.agg #[.slice b1 (r.meet ⟨[], o.lo, false⟩).lo.length d1, .slice b2 (r.meet ⟨[], o.lo, false⟩).hi.length d2, .bool (r.meet ⟨[], o.lo, false⟩).all]) (.agg #[.slice g1 (r.meet ⟨o.hi, [], true⟩).lo.length h1, .slice g2 (r.meet ⟨o.hi, [], true⟩).hi.length h2, .bool (r.meet ⟨o.hi, [], true⟩).all])) := (HYV.out.apart hx (Nat.le_refl _)).symm
      have HS2 : Hid _ := HSV.out.here hb2
      have HB2 : Hid (Below w.heap.size w W2) := HBV.out.trans (hb2.mono HBV.out.size)
      have HX : Hid (NewRange w.heap.size W2 (.agg #[.slice b1 (r.meet ⟨[], o.lo, false⟩).lo.length d1, .slice b2 (r.meet ⟨[], o.lo, false⟩).hi.length d2, .bool (r.meet ⟨[], o.lo, false⟩).all]) (r.ahead o)) := by rw [HA.out]; exact hx.mono HBV.out.size
      have HY : Hid (NewRange w.heap.size W2 (.agg #[.slice g1 (r.meet ⟨o.hi, [], true⟩).lo.length h1, .slice g2 (r.meet ⟨o.hi, [], true⟩).hi.length h2, .bool (r.meet ⟨o.hi, [], true⟩).all]) (r.behind o)) := HYV.out.here hb2
      clear hb2 hx k0 k1 k2 m0 m1 m2
      obtain ⟨k0, k1, k2⟩ := HS2.out.b4.cells
      obtain ⟨f0, f1, f2⟩ := HS2.out.b4.open
      simp only [zeroT] at k0 k1 k2
      go_wp2_with fail
      obtain ⟨W3, hW3⟩ : ∃ W3, W3 = put3 W2 (w.heap.size + 4) (.slice b1 (r.meet ⟨[], o.lo, false⟩).lo.length d1) (.slice b2 (r.meet ⟨[], o.lo, false⟩).hi.length d2) (.bool (r.meet ⟨[], o.lo, false⟩).all) := ⟨_, rfl⟩
      have HS3 : Hid (Six W3 w.heap.size (.slice a1 r.lo.length c1, .slice a2 r.hi.length c2, .bool r.all) (.slice a3 o.lo.length c3, .slice a4 o.hi.length c4, .bool o.all) (.slice b1 (r.meet ⟨[], o.lo, false⟩).lo.length d1, .slice b2 (r.meet ⟨[], o.lo, false⟩).hi.length d2, .bool (r.meet ⟨[], o.lo, false⟩).all) (.slice g1 (r.meet ⟨o.hi, [], true⟩).lo.length h1, .slice g2 (r.meet ⟨o.hi, [], true⟩).hi.length h2, .bool (r.meet ⟨o.hi, [], true⟩).all)) := by rw [hW3]; exact HS2.out.put4 (.slice b1 (r.meet ⟨[], o.lo, false⟩).lo.length d1, .slice b2 (r.meet ⟨[], o.lo, false⟩).hi.length d2, .bool (r.meet ⟨[], o.lo, false⟩).all)
      have HB3 : Hid (Below w.heap.size w W3) := by rw [hW3]; exact put3_below HB2.out (by omega) _ _ _
      have HX3 : Hid (NewRange w.heap.size W3 (.agg #[.slice b1 (r.meet ⟨[], o.lo, false⟩).lo.length d1, .slice b2 (r.meet ⟨[], o.lo, false⟩).hi.length d2, .bool (r.meet ⟨[], o.lo, false⟩).all]) (r.ahead o)) := by rw [hW3]; exact HX.out.put3 HS2.out.b4 (Nat.le_refl _) _ _ _
      have HY3 : Hid (NewRange w.heap.size W3 (.agg #[.slice g1 (r.meet ⟨o.hi, [], true⟩).lo.length h1, .slice g2 (r.meet ⟨o.hi, [], true⟩).hi.length h2, .bool (r.meet ⟨o.hi, [], true⟩).all]) (r.behind o)) := by rw [hW3]; exact HY.out.put3 HS2.out.b4 (Nat.le_refl _) _ _ _
      change Code.wp _ _ _ _ (put3 W2 (w.heap.size + 4) (.slice b1 (r.meet ⟨[], o.lo, false⟩).lo.length d1) (.slice b2 (r.meet ⟨[], o.lo, false⟩).hi.length d2) (.bool (r.meet ⟨[], o.lo, false⟩).all))
      rw [← hW3]
      clear hW3
      clear k0 k1 k2 f0 f1 f2
      obtain ⟨k0, k1, k2⟩ := HS3.out.b4.cells
      obtain ⟨m0, m1, m2⟩ := HS3.out.b5.cells
      obtain ⟨p0, p1, p2⟩ := HS3.out.b2.cells
      obtain ⟨f0, f1, f2⟩ := HS3.out.b2.open
      obtain ⟨q0, q1, q2⟩ := HS3.out.b3.cells
      obtain ⟨z0, z1, z2⟩ := HS3.out.b3.open
      simp only at k0 k1 k2 m0 m1 m2
      go_region
      all_goals
        go_wp2
        obtain ⟨e1, e2, e3, e4, e5⟩ := minus_end HS3.out HX3.out HY3.out HB3.out
        exact bodyPost_ret (ret_boxes rfl rfl rfl e1 e2) rfl ⟨_, _, rfl, e3, e4, HAP.out, e5⟩
end Go.Proofs.Ytphohkchffcjeaa
