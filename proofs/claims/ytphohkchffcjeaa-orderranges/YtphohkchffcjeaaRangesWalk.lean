/- The law OrderRanges's walk. -/
import Derived.Test.YtphohkchffcjeaaLotRanges
import Derived.Test.YtphohkchffcjeaaKeysWalk
namespace Go.Proofs.Ytphohkchffcjeaa
open Go.RowKit

theorem KeyS.row {base : Nat} {w : World} {g n : Nat} {k m : Key} (h : BRow w g (k ++ m)) (hn : k.length = n) (c : Nat) (hc : n ≤ c) (hs : n ≤ 140737488355328) : KeyS base w (.slice (some ⟨g, 0, none⟩) n c) k := by
  subst hn
  exact KeyS.of_row h c hc hs
theorem Book.but2 {w w' : World} {base b B g1 g2 : Nat} {l0 l1 vl vw : Value} {items : List (Value × Key)} {k1 k2 : Key} (h : Book w base b l0 l1 vl vw items) (hb : But2 B g1 g2 w w') (h1 : BRow w g1 k1) (h2 : BRow w g2 k2) (hi : ∀ z ∈ items, ∀ q, z.1.ownBlock = some q → q ≠ g1 ∧ q ≠ g2) : Book w' base b l0 l1 vl vw items := by
  have nb : ∀ g k, BRow w g k → b ≠ g := fun g k hg e => absurd rfl (e ▸ h.not_b hg.row (by decide))
  refine h.moved (hb.other b h.lt (nb _ _ h1) (nb _ _ h2)) (fun q hq => hb.other q (own_type h.rowL q hq).1 ?_ ?_) (fun q hq => hb.other q (own_type h.rowW q hq).1 ?_ ?_) (fun i v bs q hv hq => hb.other q (own_type (h.item i v bs hv) q hq).1 (hi (v, bs) (List.mem_of_getElem? hv) q hq).1 (hi (v, bs) (List.mem_of_getElem? hv) q hq).2)
  · exact fun e => h.not_l h1.row (by decide) (e ▸ hq)
  · exact fun e => h.not_l h2.row (by decide) (e ▸ hq)
  · exact fun e => h.not_w h1.row (by decide) (e ▸ hq)
  · exact fun e => h.not_w h2.row (by decide) (e ▸ hq)
theorem Box.but2 {w w' : World} {b B g1 g2 : Nat} {x y z : Value} {k1 k2 : Key} (h : Box w b x y z) (hb : But2 B g1 g2 w w') (h1 : BRow w g1 k1) (h2 : BRow w g2 k2) : Box w' b x y z :=
  ⟨by rw [hb.other b h.lt (tag_ne h.row h1.row (by decide)) (tag_ne h.row h2.row (by decide))]; exact h.row⟩
theorem Box.but {w w' : World} {b g : Nat} {x y z : Value} {k : Key} (h : Box w b x y z) (hb : But g w w') (h1 : BRow w g k) : Box w' b x y z :=
  ⟨by rw [hb.other b (tag_ne h.row h1.row (by decide))]; exact h.row⟩
theorem BRow.but2 {w w' : World} {B g g1 g2 : Nat} {k : Key} (h : BRow w g k) (hb : But2 B g1 g2 w w') (h1 : g ≠ g1) (h2 : g ≠ g2) : BRow w' g k := h.same (hb.other g h.lt h1 h2)
/-- The four boxes. -/
structure FourB (w : World) (n bx bz : Nat) (x1 x2 x3 y1 y2 y3 p1 p2 p3 q1 q2 q3 : Value) : Prop where
  b0 : Box w n x1 x2 x3
  b1 : Box w (n + 1) y1 y2 y3
  b2 : Box w bx p1 p2 p3
  b3 : Box w bz q1 q2 q3
section
variable {w w' : World} {n bx bz : Nat} {x1 x2 x3 y1 y2 y3 p1 p2 p3 q1 q2 q3 : Value}
theorem FourB.here (h : FourB w n bx bz x1 x2 x3 y1 y2 y3 p1 p2 p3 q1 q2 q3) (hb : Below w.heap.size w w') : FourB w' n bx bz x1 x2 x3 y1 y2 y3 p1 p2 p3 q1 q2 q3 := ⟨h.b0.here hb, h.b1.here hb, h.b2.here hb, h.b3.here hb⟩
theorem FourB.still {base : Nat} (h : FourB w n bx bz x1 x2 x3 y1 y2 y3 p1 p2 p3 q1 q2 q3) (hb : Still base w w') : FourB w' n bx bz x1 x2 x3 y1 y2 y3 p1 p2 p3 q1 q2 q3 := ⟨h.b0.still hb, h.b1.still hb, h.b2.still hb, h.b3.still hb⟩
theorem FourB.but2 {B g1 g2 : Nat} {k1 k2 : Key} (h : FourB w n bx bz x1 x2 x3 y1 y2 y3 p1 p2 p3 q1 q2 q3) (hb : But2 B g1 g2 w w') (h1 : BRow w g1 k1) (h2 : BRow w g2 k2) : FourB w' n bx bz x1 x2 x3 y1 y2 y3 p1 p2 p3 q1 q2 q3 := ⟨h.b0.but2 hb h1 h2, h.b1.but2 hb h1 h2, h.b2.but2 hb h1 h2, h.b3.but2 hb h1 h2⟩
theorem FourB.but {g : Nat} {k : Key} (h : FourB w n bx bz x1 x2 x3 y1 y2 y3 p1 p2 p3 q1 q2 q3) (hb : But g w w') (h1 : BRow w g k) : FourB w' n bx bz x1 x2 x3 y1 y2 y3 p1 p2 p3 q1 q2 q3 := ⟨h.b0.but hb h1, h.b1.but hb h1, h.b2.but hb h1, h.b3.but hb h1⟩
end
def turnR (r : Rg) : Rg := ⟨r.lo.map (255 - ·), r.hi.map (255 - ·), r.all⟩

set_option maxHeartbeats 6400000 in
set_option maxRecDepth 100000 in
theorem orderRanges_walk {w : World} {v u kv : Value} {r o : Rg} {k : Key} (hv : RangeAt w v r) (hu : RangeAt w u o) (hk : KeyAt w kv k) (sr : r.Short) (so : o.Short) (lk : k.length ≤ 140737488351232) :
    Calls Try.prog 5 #[v, u, kv] w fun e w' => e = .returned (.bool true) ∧ Below w.heap.size w w' := by
  obtain ⟨v1, v2, rfl, h1, h2⟩ := hv.in.is
  obtain ⟨u1, u2, rfl, h3, h4⟩ := hu.in.is
  obtain ⟨a1, c1, rfl⟩ := h1.form
  obtain ⟨a2, c2, rfl⟩ := h2.form
  obtain ⟨a3, c3, rfl⟩ := h3.form
  obtain ⟨a4, c4, rfl⟩ := h4.form
  have h5 := hk.in
  obtain ⟨a5, c5, rfl⟩ := h5.form
  obtain ⟨base, hbase⟩ : ∃ base, base = w.heap.size := ⟨_, rfl⟩
  rw [← hbase] at h1 h2 h3 h4 h5
  have HA1 : Hid (KeyIn base w (.slice a1 r.lo.length c1) r.lo) := h1
  have HA2 : Hid (KeyIn base w (.slice a2 r.hi.length c2) r.hi) := h2
  have HA3 : Hid (KeyIn base w (.slice a3 o.lo.length c3) o.lo) := h3
  have HA4 : Hid (KeyIn base w (.slice a4 o.hi.length c4) o.hi) := h4
  have HA5 : Hid (KeyIn base w (.slice a5 k.length c5) k) := h5
  have HBASE : Hid (base = w.heap.size) := hbase
  have SR : Hid _ := sr
  have SO : Hid _ := so
  clear hv hu hk h1 h2 h3 h4 h5 sr so
  obtain ⟨W, hW⟩ : ∃ W, W = (w.alloc (.cells #[.slice a1 r.lo.length c1, .slice a2 r.hi.length c2, .bool r.all] 36)).alloc (.cells #[.slice a3 o.lo.length c3, .slice a4 o.hi.length c4, .bool o.all] 36) := ⟨_, rfl⟩
  have hbW : Below base w W := by rw [hW, hbase]; exact (below_new w _).alloc (by simp) _
  have hx0 : Box W base (.slice a1 r.lo.length c1) (.slice a2 r.hi.length c2) (.bool r.all) := by rw [hW]; exact (box_at _ _ _ _ _ hbase.symm).alloc _
  have hx1 : Box W (base + 1) (.slice a3 o.lo.length c3) (.slice a4 o.hi.length c4) (.bool o.all) := by rw [hW]; exact box_at _ _ _ _ _ (by simp [hbase])
  have HBW : Hid (Below base w W) := hbW
  have HX0 : Hid _ := hx0
  have HX1 : Hid _ := hx1
  have hs0 : base + 1 < W.heap.size := hx1.lt
  have HAW := awake_any W
  clear hbW hx0 hx1 hbase
  go_enter Try.func5, Try.ntmps5
  go_upto_region 1 with fail
  rw [← hW, ← HBASE.out]
  clear hW
  go_wp2_with fail
  refine HAW.mono ?_
  rintro e w1 ⟨rfl, hb1⟩
  obtain ⟨wb, hwb⟩ : ∃ wb, wb = w1.alloc (.cells #[.slice none 0 0, .slice none 0 0, .slice none 0 0, .slice none 0 0] 31) := ⟨_, rfl⟩
  have hbb : Below W.heap.size W wb := by rw [hwb]; exact hb1.trans ((below_new w1 _).mono hb1.size)
  have HBb : Hid (Below base w wb) := HBW.out.trans (hbb.mono (by omega))
  have hs1 : W.heap.size ≤ w1.heap.size := hb1.size
  have BKb : Hid (Book wb base w1.heap.size (.slice none 0 0) (.slice none 0 0) (.slice none 0 0) (.slice none 0 0) []) := by rw [hwb]; exact book_new w1 base (by omega)
  have hsb : w1.heap.size < wb.heap.size := by rw [hwb]; simp
  have Y0 : Hid _ := HX0.out.here hbb
  have Y1 : Hid _ := HX1.out.here hbb
  obtain ⟨b, hb⟩ : ∃ b, b = w1.heap.size := ⟨_, rfl⟩
  rw [← hb] at BKb hsb
  have hbs : base + 1 < b := by omega
  have HL1 := lentRange_any ((HA1.out.below HBb.out).at (by omega)) ((HA2.out.below HBb.out).at (by omega)) SR.out.lo SR.out.hi
  obtain ⟨e0, e1, e2⟩ := Y0.out.cells
  clear hb1 hbb HAW HX0 HX1
  go_upto_region 3 with fail
  rw [← hb, ← hwb]
  clear hwb hb
  go_wp2_with fail
  refine HL1.mono ?_
  rintro e w2 ⟨g1, g2, rfl, hr1, hr2, hg1, hg2, hb2⟩
  obtain ⟨V2, hV2⟩ : ∃ V2, V2 = w2.alloc (.cells #[.slice (some ⟨g1, 0, none⟩) r.lo.length (r.lo.length + 2), .slice (some ⟨g2, 0, none⟩) r.hi.length (r.hi.length + 2), .bool r.all] 36) := ⟨_, rfl⟩
  have hbV : Below w2.heap.size w2 V2 := by rw [hV2]; exact below_new _ _
  have hb' : Below wb.heap.size wb V2 := hb2.trans (hbV.mono hb2.size)
  have HB2 : Hid (Below base w V2) := HBb.out.trans (hb'.mono (by omega))
  have BK2 : Hid (Book V2 base b (.slice none 0 0) (.slice none 0 0) (.slice none 0 0) (.slice none 0 0) []) := BKb.out.here hb'
  have R12 : Hid (BRow V2 g1 (r.lo ++ [251, 252])) := hr1.here hbV
  have R22 : Hid (BRow V2 g2 (r.hi ++ [251, 252])) := hr2.here hbV
  have Y02 : Hid _ := Y0.out.here hb'
  have Y12 : Hid _ := Y1.out.here hb'
  have Y2 : Hid (Box V2 w2.heap.size (.slice (some ⟨g1, 0, none⟩) r.lo.length (r.lo.length + 2)) (.slice (some ⟨g2, 0, none⟩) r.hi.length (r.hi.length + 2)) (.bool r.all)) := by rw [hV2]; exact box_at _ _ _ _ _ rfl
  have hl2 : g2 < V2.heap.size := R22.out.lt
  have hs2 : wb.heap.size ≤ V2.heap.size := hb'.size
  clear e0 e1 e2 hr1 hr2 hb2 hbV hb' HL1 Y0 Y1
  have HL2 := lentRange_any ((HA3.out.below HB2.out).at (by omega)) ((HA4.out.below HB2.out).at (by omega)) SO.out.lo SO.out.hi
  obtain ⟨f0, f1, f2⟩ := Y12.out.cells
  go_upto_region 4 with fail
  rw [← hV2]
  clear hV2
  go_wp2_with fail
  refine HL2.mono ?_
  rintro e w3 ⟨g3, g4, rfl, hr1, hr2, hg3, hg4, hb2⟩
  obtain ⟨V3, hV3⟩ : ∃ V3, V3 = w3.alloc (.cells #[.slice (some ⟨g3, 0, none⟩) o.lo.length (o.lo.length + 2), .slice (some ⟨g4, 0, none⟩) o.hi.length (o.hi.length + 2), .bool o.all] 36) := ⟨_, rfl⟩
  have hbV : Below w3.heap.size w3 V3 := by rw [hV3]; exact below_new _ _
  have hb' : Below V2.heap.size V2 V3 := hb2.trans (hbV.mono hb2.size)
  have HB3 : Hid (Below base w V3) := HB2.out.trans (hb'.mono (by omega))
  have BK3 : Hid (Book V3 base b (.slice none 0 0) (.slice none 0 0) (.slice none 0 0) (.slice none 0 0) []) := BK2.out.here hb'
  have R13 : Hid (BRow V3 g1 (r.lo ++ [251, 252])) := R12.out.here hb'
  have R23 : Hid (BRow V3 g2 (r.hi ++ [251, 252])) := R22.out.here hb'
  have R33 : Hid (BRow V3 g3 (o.lo ++ [251, 252])) := hr1.here hbV
  have R43 : Hid (BRow V3 g4 (o.hi ++ [251, 252])) := hr2.here hbV
  have F3 : Hid (FourB V3 base w2.heap.size w3.heap.size (.slice a1 r.lo.length c1) (.slice a2 r.hi.length c2) (.bool r.all) (.slice a3 o.lo.length c3) (.slice a4 o.hi.length c4) (.bool o.all) (.slice (some ⟨g1, 0, none⟩) r.lo.length (r.lo.length + 2)) (.slice (some ⟨g2, 0, none⟩) r.hi.length (r.hi.length + 2)) (.bool r.all) (.slice (some ⟨g3, 0, none⟩) o.lo.length (o.lo.length + 2)) (.slice (some ⟨g4, 0, none⟩) o.hi.length (o.hi.length + 2)) (.bool o.all)) := ⟨Y02.out.here hb', Y12.out.here hb', Y2.out.here hb', by rw [hV3]; exact box_at _ _ _ _ _ rfl⟩
  have hl4 : g4 < V3.heap.size := R43.out.lt
  have hs3 : V2.heap.size ≤ V3.heap.size := hb'.size
  clear f0 f1 f2 hr1 hr2 hb2 hbV hb' HL2 Y02 Y12 Y2 R12 R22
  have HL3 := lent_any ((HA5.out.below HB3.out).at (by omega)) lk
  go_upto_region 5 with fail
  rw [← hV3]
  clear hV3
  go_wp2_with fail
  refine HL3.mono ?_
  rintro e w4 ⟨rfl, hr5, hb2⟩
  obtain ⟨g5, hg5⟩ : ∃ g5, g5 = V3.heap.size := ⟨_, rfl⟩
  rw [← hg5] at hr5 ⊢
  have HB4 : Hid (Below base w w4) := HB3.out.trans (hb2.mono (by omega))
  have BK4 : Hid (Book w4 base b (.slice none 0 0) (.slice none 0 0) (.slice none 0 0) (.slice none 0 0) []) := BK3.out.here hb2
  have R14 : Hid (BRow w4 g1 (r.lo ++ [251, 252])) := R13.out.here hb2
  have R24 : Hid (BRow w4 g2 (r.hi ++ [251, 252])) := R23.out.here hb2
  have R34 : Hid (BRow w4 g3 (o.lo ++ [251, 252])) := R33.out.here hb2
  have R44 : Hid (BRow w4 g4 (o.hi ++ [251, 252])) := R43.out.here hb2
  have R54 : Hid (BRow w4 g5 (k ++ [251, 252])) := hr5
  have F4 : Hid _ := F3.out.here hb2
  have hl5 : g5 < w4.heap.size := hr5.lt
  have hs4 : V3.heap.size ≤ w4.heap.size := hb2.size
  have hg45 : g4 < g5 := by omega
  have hg5' : base ≤ g5 := by omega
  clear hg5 hr5 hb2 HL3 R13 R23 R33 R43 F3
  have SX : Hid (RangeS base w4 (.slice (some ⟨g1, 0, none⟩) r.lo.length (r.lo.length + 2)) (.slice (some ⟨g2, 0, none⟩) r.hi.length (r.hi.length + 2)) r) := ⟨KeyS.of_row R14.out _ (by omega) (Nat.le_trans SR.out.lo (by omega)), KeyS.of_row R24.out _ (by omega) (Nat.le_trans SR.out.hi (by omega))⟩
  have SY : Hid (RangeS base w4 (.slice (some ⟨g3, 0, none⟩) o.lo.length (o.lo.length + 2)) (.slice (some ⟨g4, 0, none⟩) o.hi.length (o.hi.length + 2)) o) := ⟨KeyS.of_row R34.out _ (by omega) (Nat.le_trans SO.out.lo (by omega)), KeyS.of_row R44.out _ (by omega) (Nat.le_trans SO.out.hi (by omega))⟩
  have SK : Hid (KeyS base w4 (.slice (some ⟨g5, 0, none⟩) k.length (k.length + 2)) k) := KeyS.of_row R54.out _ (by omega) (by omega)
  have SA : Hid (RangeS base w4 (.slice a1 r.lo.length c1) (.slice a2 r.hi.length c2) r) := ⟨KeyS.of_in (HA1.out.below HB4.out) (by omega), KeyS.of_in (HA2.out.below HB4.out) (by omega)⟩
  have SC : Hid (RangeS base w4 (.slice a3 o.lo.length c3) (.slice a4 o.hi.length c4) o) := ⟨KeyS.of_in (HA3.out.below HB4.out) (by omega), KeyS.of_in (HA4.out.below HB4.out) (by omega)⟩
  have SL : Hid (KeyS base w4 (.slice a5 k.length c5) k) := KeyS.of_in (HA5.out.below HB4.out) (by omega)
  have HQ1 := ranges_any BK4.out SX.out SY.out SK.out SA.out SC.out SL.out SR.out SO.out (by omega) (by simp)
  obtain ⟨pe0, pe1, pe2⟩ := F4.out.b0.cells
  obtain ⟨pf0, pf1, pf2⟩ := F4.out.b1.cells
  obtain ⟨pg0, pg1, pg2⟩ := F4.out.b2.cells
  obtain ⟨ph0, ph1, ph2⟩ := F4.out.b3.cells
  go_wp2_with fail
  refine HQ1.mono ?_
  rintro e w5 ⟨rfl, hg, vl5, vw5, new1, hbk, hn1, hz1⟩
  have T5 : Hid (Still base w4 w5) := hg
  have BK5 : Hid (Book w5 base b (.slice none 0 0) (.slice none 0 0) vl5 vw5 ([] ++ new1)) := hbk
  have HZ1 : Hid (∀ z ∈ new1, z.2.length ≤ 140737488351240 ∧ ∀ g, z.1.ownBlock = some g → w4.heap.size ≤ g) := hz1
  have F5 : Hid _ := F4.out.still hg
  have hs5 : w4.heap.size ≤ w5.heap.size := hg.below.size
  have HQ2 := ranges_any BK5.out (SX.out.goes hg.goes) (SY.out.goes hg.goes) (SK.out.goes hg.goes) (SA.out.goes hg.goes) (SC.out.goes hg.goes) (SL.out.goes hg.goes) SR.out SO.out (by omega) (by simp [hn1])
  clear pe0 pe1 pe2 pf0 pf1 pf2 pg0 pg1 pg2 ph0 ph1 ph2
  clear HQ1 hg hbk hz1
  obtain ⟨pe0, pe1, pe2⟩ := F5.out.b0.cells
  obtain ⟨pf0, pf1, pf2⟩ := F5.out.b1.cells
  obtain ⟨pg0, pg1, pg2⟩ := F5.out.b2.cells
  obtain ⟨ph0, ph1, ph2⟩ := F5.out.b3.cells
  go_wp2_with fail
  refine HQ2.mono ?_
  rintro e w6 ⟨rfl, hg, vl6, vw6, new2, hbk, hn2, hz2⟩
  have T6 : Hid (Still base w4 w6) := T5.out.trans hg
  have BK6 : Hid (Book w6 base b (.slice none 0 0) (.slice none 0 0) vl6 vw6 ([] ++ new1 ++ new2)) := hbk
  have HZ2 : Hid (∀ z ∈ [] ++ new1 ++ new2, z.2.length ≤ 140737488351240 ∧ ∀ g, z.1.ownBlock = some g → w4.heap.size ≤ g) := fun z hz => by
    rcases List.mem_append.1 hz with h | h
    · exact HZ1.out z (by simpa using h)
    · exact ⟨(hz2 z h).1, fun g hg => Nat.le_trans hs5 ((hz2 z h).2 g hg)⟩
  have F6 : Hid _ := F5.out.still hg
  have hs6 : w5.heap.size ≤ w6.heap.size := hg.below.size
  have HB6 : Hid (Below base w w6) := HB4.out.trans T6.out.below
  have R16 : Hid (BRow w6 g1 (r.lo ++ [251, 252])) := T6.out.goes.row R14.out
  have R26 : Hid (BRow w6 g2 (r.hi ++ [251, 252])) := T6.out.goes.row R24.out
  have R36 : Hid (BRow w6 g3 (o.lo ++ [251, 252])) := T6.out.goes.row R34.out
  have R46 : Hid (BRow w6 g4 (o.hi ++ [251, 252])) := T6.out.goes.row R44.out
  have R56 : Hid (BRow w6 g5 (k ++ [251, 252])) := T6.out.goes.row R54.out
  have HE1 := keptRange_any (B := base) r.all R16.out R26.out (HA1.out.below HB6.out) (HA2.out.below HB6.out) (by omega) hg2 SR.out.lo SR.out.hi
  clear pe0 pe1 pe2 pf0 pf1 pf2 pg0 pg1 pg2 ph0 ph1 ph2
  clear HQ2 hg hbk hz2 SX SY SK SA SC SL R14 R24 R34 R44 R54 F4 F5 BK5 T5
  obtain ⟨pe0, pe1, pe2⟩ := F6.out.b0.cells
  obtain ⟨pf0, pf1, pf2⟩ := F6.out.b1.cells
  obtain ⟨pg0, pg1, pg2⟩ := F6.out.b2.cells
  obtain ⟨ph0, ph1, ph2⟩ := F6.out.b3.cells
  go_wp2_with fail
  refine HE1.mono ?_
  rintro e w7 ⟨rfl, hr1, hr2, hbt⟩
  have R17 : Hid (BRow w7 g1 (r.lo.map (255 - ·) ++ [251, 252])) := hr1
  have R27 : Hid (BRow w7 g2 (r.hi.map (255 - ·) ++ [251, 252])) := hr2
  have R37 : Hid (BRow w7 g3 (o.lo ++ [251, 252])) := R36.out.but2 hbt (by omega) (by omega)
  have R47 : Hid (BRow w7 g4 (o.hi ++ [251, 252])) := R46.out.but2 hbt (by omega) (by omega)
  have R57 : Hid (BRow w7 g5 (k ++ [251, 252])) := R56.out.but2 hbt (by omega) (by omega)
  have F7 : Hid _ := F6.out.but2 hbt R16.out R26.out
  have BK7 : Hid (Book w7 base b (.slice none 0 0) (.slice none 0 0) vl6 vw6 ([] ++ new1 ++ new2)) := BK6.out.but2 hbt R16.out R26.out fun z hz q hq => by
    have := (HZ2.out z hz).2 q hq
    omega
  have hs7 : w6.heap.size ≤ w7.heap.size := hbt.below.size
  have HB7 : Hid (Below base w w7) := HB6.out.trans hbt.below
  have HE2 := keptRange_any (B := base) o.all R37.out R47.out (HA3.out.below HB7.out) (HA4.out.below HB7.out) (by omega) hg4 SO.out.lo SO.out.hi
  clear pe0 pe1 pe2 pf0 pf1 pf2 pg0 pg1 pg2 ph0 ph1 ph2
  clear HE1 hr1 hr2 hbt R16 R26 R36 R46 R56 F6 BK6
  obtain ⟨pe0, pe1, pe2⟩ := F7.out.b0.cells
  obtain ⟨pf0, pf1, pf2⟩ := F7.out.b1.cells
  obtain ⟨pg0, pg1, pg2⟩ := F7.out.b2.cells
  obtain ⟨ph0, ph1, ph2⟩ := F7.out.b3.cells
  go_wp2_with fail
  refine HE2.mono ?_
  rintro e w8 ⟨rfl, hr1, hr2, hbt⟩
  have R18 : Hid (BRow w8 g1 (r.lo.map (255 - ·) ++ [251, 252])) := R17.out.but2 hbt (by omega) (by omega)
  have R28 : Hid (BRow w8 g2 (r.hi.map (255 - ·) ++ [251, 252])) := R27.out.but2 hbt (by omega) (by omega)
  have R38 : Hid (BRow w8 g3 (o.lo.map (255 - ·) ++ [251, 252])) := hr1
  have R48 : Hid (BRow w8 g4 (o.hi.map (255 - ·) ++ [251, 252])) := hr2
  have R58 : Hid (BRow w8 g5 (k ++ [251, 252])) := R57.out.but2 hbt (by omega) (by omega)
  have F8 : Hid _ := F7.out.but2 hbt R37.out R47.out
  have BK8 : Hid (Book w8 base b (.slice none 0 0) (.slice none 0 0) vl6 vw6 ([] ++ new1 ++ new2)) := BK7.out.but2 hbt R37.out R47.out fun z hz q hq => by
    have := (HZ2.out z hz).2 q hq
    omega
  have hs8 : w7.heap.size ≤ w8.heap.size := hbt.below.size
  have HB8 : Hid (Below base w w8) := HB7.out.trans hbt.below
  have HE3 := kept_any R58.out (HA5.out.below HB8.out) (by omega) lk
  clear pe0 pe1 pe2 pf0 pf1 pf2 pg0 pg1 pg2 ph0 ph1 ph2
  clear HE2 hr1 hr2 hbt R17 R27 R37 R47 R57 F7 BK7
  go_wp2_with fail
  refine HE3.mono ?_
  rintro e w9 ⟨rfl, hr5, hbt⟩
  have R19 : Hid (BRow w9 g1 (r.lo.map (255 - ·) ++ [251, 252])) := R18.out.same (hbt.other g1 (by omega))
  have R29 : Hid (BRow w9 g2 (r.hi.map (255 - ·) ++ [251, 252])) := R28.out.same (hbt.other g2 (by omega))
  have R39 : Hid (BRow w9 g3 (o.lo.map (255 - ·) ++ [251, 252])) := R38.out.same (hbt.other g3 (by omega))
  have R49 : Hid (BRow w9 g4 (o.hi.map (255 - ·) ++ [251, 252])) := R48.out.same (hbt.other g4 (by omega))
  have R59 : Hid (BRow w9 g5 (k.map (255 - ·) ++ [251, 252])) := hr5
  have F9 : Hid _ := F8.out.but hbt R58.out
  have BK9 : Hid (Book w9 base b (.slice none 0 0) (.slice none 0 0) vl6 vw6 ([] ++ new1 ++ new2)) := BK8.out.but hbt R58.out fun z hz q hq => by
    have := (HZ2.out z hz).2 q hq
    omega
  have hs9 : w8.heap.size ≤ w9.heap.size := Nat.le_of_eq hbt.size.symm
  have HB9 : Hid (Below base w w9) := HB8.out.trans (hbt.below.mono (by omega))
  clear HE3 hr5 hbt R18 R28 R38 R48 R58 F8 BK8
  have HZ : Hid (Below w9.heap.size w9 w9.drew) := (Below.refl _ w9).drew
  have HT1 : Hid _ := turnedRange_any (((HA1.out.below HB9.out).at (by omega)).here HZ.out) (((HA2.out.below HB9.out).at (by omega)).here HZ.out) SR.out.lo SR.out.hi
  obtain ⟨pe0, pe1, pe2⟩ := F9.out.b0.cells
  obtain ⟨pf0, pf1, pf2⟩ := F9.out.b1.cells
  obtain ⟨pg0, pg1, pg2⟩ := F9.out.b2.cells
  obtain ⟨ph0, ph1, ph2⟩ := F9.out.b3.cells
  go_wp2_with fail
  go_region_held_law (fun W' => W'.cell? ⟨base, 0, none⟩ = some (.slice a1 r.lo.length c1) ∧ W'.cell? ⟨base, 1, none⟩ = some (.slice a2 r.hi.length c2) ∧ W'.cell? ⟨base, 2, none⟩ = some (.bool r.all) ∧ W'.cell? ⟨base + 1, 0, none⟩ = some (.slice a3 o.lo.length c3) ∧ W'.cell? ⟨base + 1, 1, none⟩ = some (.slice a4 o.hi.length c4) ∧ W'.cell? ⟨base + 1, 2, none⟩ = some (.bool o.all) ∧ W'.cell? ⟨w2.heap.size, 0, none⟩ = some (.slice (some ⟨g1, 0, none⟩) r.lo.length (r.lo.length + 2)) ∧ W'.cell? ⟨w2.heap.size, 1, none⟩ = some (.slice (some ⟨g2, 0, none⟩) r.hi.length (r.hi.length + 2)) ∧ W'.cell? ⟨w2.heap.size, 2, none⟩ = some (.bool r.all) ∧ W'.cell? ⟨w3.heap.size, 0, none⟩ = some (.slice (some ⟨g3, 0, none⟩) o.lo.length (o.lo.length + 2)) ∧ W'.cell? ⟨w3.heap.size, 1, none⟩ = some (.slice (some ⟨g4, 0, none⟩) o.hi.length (o.hi.length + 2)) ∧ W'.cell? ⟨w3.heap.size, 2, none⟩ = some (.bool o.all)) (first | (refine ⟨?_, ?_, ?_, ?_, ?_, ?_, ?_, ?_, ?_, ?_, ?_, ?_⟩ <;> with_reducible assumption) | (go_keep; done))
    (first
      | (go_at_call_of 18 (Value.agg #[.slice a1 r.lo.length c1, .slice a2 r.hi.length c2, .bool r.all]); refine Calls.mono HT1.out ?_
         rintro e z1 ⟨t1, t2, rfl, hr1, hr2, ht1, ht2, hb2⟩
         have HZ1' : Hid (Below w9.heap.size w9 z1) := HZ.out.trans hb2
         have U11 : Hid (BRow z1 t1 (r.lo.map (255 - ·) ++ [251, 252])) := hr1
         have U21 : Hid (BRow z1 t2 (r.hi.map (255 - ·) ++ [251, 252])) := hr2
         have HB10 : Hid (Below base w z1) := HB9.out.trans (HZ1'.out.mono (by omega))
         have hs10 : w9.heap.size ≤ z1.heap.size := HZ1'.out.size
         have HT2 : Hid _ := turnedRange_any ((HA3.out.below HB10.out).at (by omega)) ((HA4.out.below HB10.out).at (by omega)) SO.out.lo SO.out.hi
         clear hr1 hr2 hb2
         obtain ⟨pea0, pea1, pea2⟩ := (F9.out.here HZ1'.out).b0.cells
         obtain ⟨pfa0, pfa1, pfa2⟩ := (F9.out.here HZ1'.out).b1.cells
         obtain ⟨pga0, pga1, pga2⟩ := (F9.out.here HZ1'.out).b2.cells
         obtain ⟨pha0, pha1, pha2⟩ := (F9.out.here HZ1'.out).b3.cells)
      | (go_at_call_of 18 (Value.agg #[.slice a3 o.lo.length c3, .slice a4 o.hi.length c4, .bool o.all]); refine Calls.mono HT2.out ?_
         rintro e z2 ⟨t3, t4, rfl, hr1, hr2, ht3, ht4, hb2⟩
         have HZ2' : Hid (Below w9.heap.size w9 z2) := HZ1'.out.trans (hb2.mono hs10)
         have U12 : Hid (BRow z2 t1 (r.lo.map (255 - ·) ++ [251, 252])) := U11.out.here hb2
         have U22 : Hid (BRow z2 t2 (r.hi.map (255 - ·) ++ [251, 252])) := U21.out.here hb2
         have U32 : Hid (BRow z2 t3 (o.lo.map (255 - ·) ++ [251, 252])) := hr1
         have U42 : Hid (BRow z2 t4 (o.hi.map (255 - ·) ++ [251, 252])) := hr2
         have HB11 : Hid (Below base w z2) := HB9.out.trans (HZ2'.out.mono (by omega))
         have hs11 : w9.heap.size ≤ z2.heap.size := HZ2'.out.size
         have HT3 : Hid _ := turned_any ((HA5.out.below HB11.out).at (by omega)) lk
         clear hr1 hr2 hb2
         obtain ⟨peb0, peb1, peb2⟩ := (F9.out.here HZ2'.out).b0.cells
         obtain ⟨pfb0, pfb1, pfb2⟩ := (F9.out.here HZ2'.out).b1.cells
         obtain ⟨pgb0, pgb1, pgb2⟩ := (F9.out.here HZ2'.out).b2.cells
         obtain ⟨phb0, phb1, phb2⟩ := (F9.out.here HZ2'.out).b3.cells)
      | (go_at_call 13; refine Calls.mono HT3.out ?_
         rintro e z3 ⟨rfl, hr5, hb2⟩
         have HZ3' : Hid (Below w9.heap.size w9 z3) := HZ2'.out.trans (hb2.mono hs11)
         have HB12 : Hid (Below base w z3) := HB9.out.trans (HZ3'.out.mono (by omega))
         have hs12 : w9.heap.size ≤ z3.heap.size := HZ3'.out.size
         have HQ3 : Hid _ := ranges_any (r := turnR r) (o := turnR o) (k := k.map (255 - ·)) (BK9.out.here HZ3'.out)
           ⟨KeyS.row (R19.out.here HZ3'.out) (by simp) (r.lo.length + 2) (Nat.le_add_right _ 2) (Nat.le_trans SR.out.lo (by decide)), KeyS.row (R29.out.here HZ3'.out) (by simp) (r.hi.length + 2) (Nat.le_add_right _ 2) (Nat.le_trans SR.out.hi (by decide))⟩
           ⟨KeyS.row (R39.out.here HZ3'.out) (by simp) (o.lo.length + 2) (Nat.le_add_right _ 2) (Nat.le_trans SO.out.lo (by decide)), KeyS.row (R49.out.here HZ3'.out) (by simp) (o.hi.length + 2) (Nat.le_add_right _ 2) (Nat.le_trans SO.out.hi (by decide))⟩
           (KeyS.row (R59.out.here HZ3'.out) (by simp) (k.length + 2) (Nat.le_add_right _ 2) (Nat.le_trans lk (by decide)))
           ⟨KeyS.row (U12.out.here hb2) (by simp) (r.lo.length + 2) (Nat.le_add_right _ 2) (Nat.le_trans SR.out.lo (by decide)), KeyS.row (U22.out.here hb2) (by simp) (r.hi.length + 2) (Nat.le_add_right _ 2) (Nat.le_trans SR.out.hi (by decide))⟩
           ⟨KeyS.row (U32.out.here hb2) (by simp) (o.lo.length + 2) (Nat.le_add_right _ 2) (Nat.le_trans SO.out.lo (by decide)), KeyS.row (U42.out.here hb2) (by simp) (o.hi.length + 2) (Nat.le_add_right _ 2) (Nat.le_trans SO.out.hi (by decide))⟩
           (KeyS.row hr5 (by simp) (k.length + 2) (Nat.le_add_right _ 2) (Nat.le_trans lk (by decide)))
           ⟨by simpa [turnR] using SR.out.lo, by simpa [turnR] using SR.out.hi⟩ ⟨by simpa [turnR] using SO.out.lo, by simpa [turnR] using SO.out.hi⟩ (by omega) (by simp [hn1, hn2])
         clear hr5 hb2
         obtain ⟨pec0, pec1, pec2⟩ := (F9.out.here HZ3'.out).b0.cells
         obtain ⟨pfc0, pfc1, pfc2⟩ := (F9.out.here HZ3'.out).b1.cells
         obtain ⟨pgc0, pgc1, pgc2⟩ := (F9.out.here HZ3'.out).b2.cells
         obtain ⟨phc0, phc1, phc2⟩ := (F9.out.here HZ3'.out).b3.cells)
      | (go_at_call 16; refine Calls.mono HQ3.out ?_
         rintro e wt ⟨rfl, hg, vlt, vwt, new3, hbk, hn3, hz3⟩
         have TT : Hid (Still base z3 wt) := hg
         have BKT : Hid (Book wt base b (.slice none 0 0) (.slice none 0 0) vlt vwt ([] ++ new1 ++ new2 ++ new3)) := hbk
         have HZ3 : Hid (∀ z ∈ new3, z.2.length ≤ 140737488351240) := fun z hz => (hz3 z hz).1
         have FT : Hid _ := (F9.out.here HZ3'.out).still hg
         clear hg hbk hz3
         obtain ⟨ped0, ped1, ped2⟩ := (FT.out).b0.cells
         obtain ⟨pfd0, pfd1, pfd2⟩ := (FT.out).b1.cells
         obtain ⟨pgd0, pgd1, pgd2⟩ := (FT.out).b2.cells
         obtain ⟨phd0, phd1, phd2⟩ := (FT.out).b3.cells))
  have HBt : Hid (Below base w wt) := HB12.out.trans TT.out.below
  have HEN := lotEnds_none BKT.out (Nat.le_trans (by omega) TT.out.below.size) (by simp [hn1, hn2, hn3]) (fun i v bs h => by
    rcases List.mem_append.1 (List.mem_of_getElem? h) with h' | h'
    · exact (HZ2.out _ h').1
    · exact HZ3.out _ h')
  clear BKT
  go_wp2_with fail
  refine HEN.mono ?_
  rintro e we ⟨rfl, hbe⟩
  have HBe : Hid (Below base w we) := HBt.out.trans hbe
  clear HEN hbe
  go_wp2
  go_ret
  exact ⟨rfl, by rw [← HBASE.out]; exact HBe.out⟩
end Go.Proofs.Ytphohkchffcjeaa
