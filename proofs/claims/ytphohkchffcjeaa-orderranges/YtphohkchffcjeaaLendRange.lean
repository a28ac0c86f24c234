/- Ranges that are lent, turned, kept. -/
import Derived.Test.YtphohkchffcjeaaLotRange
namespace Go.Proofs.Ytphohkchffcjeaa
open Go.RowKit

set_option maxHeartbeats 1600000 in
set_option maxRecDepth 100000 in
theorem lentRange_any {w : World} {v1 v2 : Value} {r : Rg} (h1 : KeyAt w v1 r.lo) (h2 : KeyAt w v2 r.hi) (l1 : r.lo.length ≤ 140737488351232) (l2 : r.hi.length ≤ 140737488351232) :
    Calls Try.prog 15 #[.agg #[v1, v2, .bool r.all]] w fun e w' => ∃ g1 g2, e = .returned (.agg #[.slice (some ⟨g1, 0, none⟩) r.lo.length (r.lo.length + 2), .slice (some ⟨g2, 0, none⟩) r.hi.length (r.hi.length + 2), .bool r.all]) ∧ BRow w' g1 (r.lo ++ [251, 252]) ∧ BRow w' g2 (r.hi ++ [251, 252]) ∧ w.heap.size ≤ g1 ∧ g1 < g2 ∧ Below w.heap.size w w' := by
  obtain ⟨a1, c1, rfl, _⟩ := h1.is
  obtain ⟨a2, c2, rfl, _⟩ := h2.is
  obtain ⟨W, hW⟩ : ∃ W, W = (w.alloc (.cells #[.slice a1 r.lo.length c1, .slice a2 r.hi.length c2, .bool r.all] 36)).alloc (.cells #[.slice none 0 0, .slice none 0 0, .bool false] 36) := ⟨_, rfl⟩
  have hbW : Below w.heap.size w W := by rw [hW]; exact (below_new w _).alloc (by simp) _
  have hx0 : Box W w.heap.size (.slice a1 r.lo.length c1) (.slice a2 r.hi.length c2) (.bool r.all) := by rw [hW]; exact (Box.new _ _ _ _).alloc _
  have hx1 : Box W (w.heap.size + 1) (.slice none 0 0) (.slice none 0 0) (.bool false) := by
    rw [hW]
    have := Box.new (w.alloc (.cells #[.slice a1 r.lo.length c1, .slice a2 r.hi.length c2, .bool r.all] 36)) (.slice none 0 0) (.slice none 0 0) (.bool false)
    simpa using this
  have HBW : Hid (Below w.heap.size w W) := hbW
  have HX0 : Hid _ := hx0
  have HX1 : Hid _ := hx1
  have HK2 : Hid (KeyAt W (.slice a2 r.hi.length c2) r.hi) := h2.here hbW
  have HL1 : Hid _ := lent_any ((h1.here hbW).here ((Below.refl _ W).drew)) l1
  obtain ⟨p0, p1, p2⟩ := hx0.cells
  clear h1 h2 hbW hx0 hx1
  go_enter Try.func15, Try.ntmps15
  go_upto_region 1 with fail
  rw [← hW]
  clear hW
  go_region_held_law (fun W' => W'.cell? ⟨w.heap.size, 0, none⟩ = some (.slice a1 r.lo.length c1) ∧ W'.cell? ⟨w.heap.size, 1, none⟩ = some (.slice a2 r.hi.length c2) ∧ W'.cell? ⟨w.heap.size, 2, none⟩ = some (.bool r.all)) (first | (refine ⟨?_, ?_, ?_⟩ <;> with_reducible assumption) | (refine ⟨?_, ?_, ?_⟩ <;> with_reducible exact put_far (by with_reducible assumption) (by omega)) | (go_keep; done))
    (first
      | (go_at_call_of 10 (Value.slice a1 r.lo.length c1); refine Calls.mono HL1.out ?_
         rintro e w1 ⟨rfl, hr1, hb1⟩
         have R1 : Hid (BRow w1 W.heap.size (r.lo ++ [251, 252])) := hr1
         have HB1 : Hid (Below W.heap.size W w1) := ((Below.refl _ W).drew).trans hb1
         have HL2 : Hid _ := lent_any (HK2.out.here HB1.out) l2
         obtain ⟨x0, x1, x2⟩ := (HX0.out.here HB1.out).cells
         clear hr1 hb1)
      | (go_at_call_of 10 (Value.slice a2 r.hi.length c2); refine Calls.mono HL2.out ?_
         rintro e w2 ⟨rfl, hr2, hb2⟩
         have R2 : Hid (BRow w2 w1.heap.size (r.hi ++ [251, 252])) := hr2
         have R1' : Hid (BRow w2 W.heap.size (r.lo ++ [251, 252])) := R1.out.here hb2
         have HB2 : Hid (Below w.heap.size w w2) := HBW.out.trans ((HB1.out.mono HBW.out.size).trans (hb2.mono (Nat.le_trans HBW.out.size HB1.out.size)))
         have HY1 : Hid _ := (HX1.out.here HB1.out).here hb2
         obtain ⟨y0, y1, y2⟩ := ((HX0.out.here HB1.out).here hb2).cells
         obtain ⟨z0, z1, z2⟩ := HY1.out.cells
         obtain ⟨f0, f1, f2⟩ := HY1.out.open
         clear hr2 hb2))
  go_wp2
  have hne : ∀ g bs, BRow w2 g bs → g ≠ w.heap.size + 1 := fun g bs hb => tag_ne hb.row HY1.out.row (by decide)
  exact bodyPost_ret (ret_box rfl rfl (put3_box HY1.out)) rfl ⟨W.heap.size, w1.heap.size, rfl, R1'.out.same (put3_other _ _ _ (hne _ _ R1'.out)), R2.out.same (put3_other _ _ _ (hne _ _ R2.out)), HBW.out.size, R1.out.lt, put3_below HB2.out (by omega) _ _ _⟩

set_option maxHeartbeats 1600000 in
set_option maxRecDepth 100000 in
theorem turnedRange_any {w : World} {v1 v2 : Value} {r : Rg} (h1 : KeyAt w v1 r.lo) (h2 : KeyAt w v2 r.hi) (l1 : r.lo.length ≤ 140737488351232) (l2 : r.hi.length ≤ 140737488351232) :
    Calls Try.prog 18 #[.agg #[v1, v2, .bool r.all]] w fun e w' => ∃ g1 g2, e = .returned (.agg #[.slice (some ⟨g1, 0, none⟩) r.lo.length (r.lo.length + 2), .slice (some ⟨g2, 0, none⟩) r.hi.length (r.hi.length + 2), .bool r.all]) ∧ BRow w' g1 (r.lo.map (255 - ·) ++ [251, 252]) ∧ BRow w' g2 (r.hi.map (255 - ·) ++ [251, 252]) ∧ w.heap.size ≤ g1 ∧ g1 < g2 ∧ Below w.heap.size w w' := by
  obtain ⟨a1, c1, rfl, _⟩ := h1.is
  obtain ⟨a2, c2, rfl, _⟩ := h2.is
  obtain ⟨W, hW⟩ : ∃ W, W = (w.alloc (.cells #[.slice a1 r.lo.length c1, .slice a2 r.hi.length c2, .bool r.all] 36)).alloc (.cells #[.slice none 0 0, .slice none 0 0, .bool false] 36) := ⟨_, rfl⟩
  have hbW : Below w.heap.size w W := by rw [hW]; exact (below_new w _).alloc (by simp) _
  have hx0 : Box W w.heap.size (.slice a1 r.lo.length c1) (.slice a2 r.hi.length c2) (.bool r.all) := by rw [hW]; exact (Box.new _ _ _ _).alloc _
  have hx1 : Box W (w.heap.size + 1) (.slice none 0 0) (.slice none 0 0) (.bool false) := by
    rw [hW]
    have := Box.new (w.alloc (.cells #[.slice a1 r.lo.length c1, .slice a2 r.hi.length c2, .bool r.all] 36)) (.slice none 0 0) (.slice none 0 0) (.bool false)
    simpa using this
  have HBW : Hid (Below w.heap.size w W) := hbW
  have HX0 : Hid _ := hx0
  have HX1 : Hid _ := hx1
  have HK2 : Hid (KeyAt W (.slice a2 r.hi.length c2) r.hi) := h2.here hbW
  have HL1 : Hid _ := turned_any ((h1.here hbW).here ((Below.refl _ W).drew)) l1
  obtain ⟨p0, p1, p2⟩ := hx0.cells
  clear h1 h2 hbW hx0 hx1
  go_enter Try.func18, Try.ntmps18
  go_upto_region 1 with fail
  rw [← hW]
  clear hW
  go_region_held_law (fun W' => W'.cell? ⟨w.heap.size, 0, none⟩ = some (.slice a1 r.lo.length c1) ∧ W'.cell? ⟨w.heap.size, 1, none⟩ = some (.slice a2 r.hi.length c2) ∧ W'.cell? ⟨w.heap.size, 2, none⟩ = some (.bool r.all)) (first | (refine ⟨?_, ?_, ?_⟩ <;> with_reducible assumption) | (refine ⟨?_, ?_, ?_⟩ <;> with_reducible exact put_far (by with_reducible assumption) (by omega)) | (go_keep; done))
    (first
      | (go_at_call_of 13 (Value.slice a1 r.lo.length c1); refine Calls.mono HL1.out ?_
         rintro e w1 ⟨rfl, hr1, hb1⟩
         have R1 : Hid (BRow w1 W.heap.size (r.lo.map (255 - ·) ++ [251, 252])) := hr1
         have HB1 : Hid (Below W.heap.size W w1) := ((Below.refl _ W).drew).trans hb1
         have HL2 : Hid _ := turned_any (HK2.out.here HB1.out) l2
         obtain ⟨x0, x1, x2⟩ := (HX0.out.here HB1.out).cells
         clear hr1 hb1)
      | (go_at_call_of 13 (Value.slice a2 r.hi.length c2); refine Calls.mono HL2.out ?_
         rintro e w2 ⟨rfl, hr2, hb2⟩
         have R2 : Hid (BRow w2 w1.heap.size (r.hi.map (255 - ·) ++ [251, 252])) := hr2
         have R1' : Hid (BRow w2 W.heap.size (r.lo.map (255 - ·) ++ [251, 252])) := R1.out.here hb2
         have HB2 : Hid (Below w.heap.size w w2) := HBW.out.trans ((HB1.out.mono HBW.out.size).trans (hb2.mono (Nat.le_trans HBW.out.size HB1.out.size)))
         have HY1 : Hid _ := (HX1.out.here HB1.out).here hb2
         obtain ⟨y0, y1, y2⟩ := ((HX0.out.here HB1.out).here hb2).cells
         obtain ⟨z0, z1, z2⟩ := HY1.out.cells
         obtain ⟨f0, f1, f2⟩ := HY1.out.open
         clear hr2 hb2))
  go_wp2
  have hne : ∀ g bs, BRow w2 g bs → g ≠ w.heap.size + 1 := fun g bs hb => tag_ne hb.row HY1.out.row (by decide)
  exact bodyPost_ret (ret_box rfl rfl (put3_box HY1.out)) rfl ⟨W.heap.size, w1.heap.size, rfl, R1'.out.same (put3_other _ _ _ (hne _ _ R1'.out)), R2.out.same (put3_other _ _ _ (hne _ _ R2.out)), HBW.out.size, R1.out.lt, put3_below HB2.out (by omega) _ _ _⟩

/-- All blocks but two are as they were. -/
structure But2 (B g1 g2 : Nat) (w w' : World) : Prop where
  below : Below B w w'
  other : ∀ q : Nat, q < w.heap.size → q ≠ g1 → q ≠ g2 → w'.heap[q]? = w.heap[q]?

set_option maxHeartbeats 1600000 in
set_option maxRecDepth 100000 in
theorem keptRange_any {B g1 g2 : Nat} {w : World} {a1 a2 : Option Addr} {c1 c2 : Nat} {r : Rg} (b : Bool) (h1 : BRow w g1 (r.lo ++ [251, 252])) (h2 : BRow w g2 (r.hi ++ [251, 252])) (k1 : KeyIn B w (.slice a1 r.lo.length c1) r.lo) (k2 : KeyIn B w (.slice a2 r.hi.length c2) r.hi) (hB1 : B ≤ g1) (hg : g1 < g2) (l1 : r.lo.length ≤ 140737488351232) (l2 : r.hi.length ≤ 140737488351232) :
    Calls Try.prog 17 #[.agg #[.slice (some ⟨g1, 0, none⟩) r.lo.length (r.lo.length + 2), .slice (some ⟨g2, 0, none⟩) r.hi.length (r.hi.length + 2), .bool b], .agg #[.slice a1 r.lo.length c1, .slice a2 r.hi.length c2, .bool b]] w fun e w' => e = .returned (.bool true) ∧ BRow w' g1 (r.lo.map (255 - ·) ++ [251, 252]) ∧ BRow w' g2 (r.hi.map (255 - ·) ++ [251, 252]) ∧ But2 B g1 g2 w w' := by
  obtain ⟨W, hW⟩ : ∃ W, W = (w.alloc (.cells #[.slice (some ⟨g1, 0, none⟩) r.lo.length (r.lo.length + 2), .slice (some ⟨g2, 0, none⟩) r.hi.length (r.hi.length + 2), .bool b] 36)).alloc (.cells #[.slice a1 r.lo.length c1, .slice a2 r.hi.length c2, .bool b] 36) := ⟨_, rfl⟩
  have hbW : Below w.heap.size w W := by rw [hW]; exact (below_new w _).alloc (by simp) _
  have hx0 : Box W w.heap.size (.slice (some ⟨g1, 0, none⟩) r.lo.length (r.lo.length + 2)) (.slice (some ⟨g2, 0, none⟩) r.hi.length (r.hi.length + 2)) (.bool b) := by rw [hW]; exact (Box.new _ _ _ _).alloc _
  have hx1 : Box W (w.heap.size + 1) (.slice a1 r.lo.length c1) (.slice a2 r.hi.length c2) (.bool b) := by
    rw [hW]
    have := Box.new (w.alloc (.cells #[.slice (some ⟨g1, 0, none⟩) r.lo.length (r.lo.length + 2), .slice (some ⟨g2, 0, none⟩) r.hi.length (r.hi.length + 2), .bool b] 36)) (.slice a1 r.lo.length c1) (.slice a2 r.hi.length c2) (.bool b)
    simpa using this
  have hl1 : g1 < w.heap.size := h1.lt
  have hl2 : g2 < w.heap.size := h2.lt
  have hBW : Below B w W := hbW.mono (by omega)
  have HBW : Hid (Below w.heap.size w W) := hbW
  have HX0 : Hid _ := hx0
  have HX1 : Hid _ := hx1
  have R2 : Hid (BRow W g2 (r.hi ++ [251, 252])) := h2.here hbW
  have HK2 : Hid (KeyIn B W (.slice a2 r.hi.length c2) r.hi) := k2.below hBW
  have HT1 := kept_any (h1.here hbW) (k1.below hBW) hB1 l1
  obtain ⟨p0, p1, p2⟩ := hx0.cells
  obtain ⟨q0, q1, q2⟩ := hx1.cells
  clear h1 h2 k1 k2 hbW hBW hx0 hx1
  go_enter Try.func17, Try.ntmps17
  go_upto_region 1 with fail
  rw [← hW]
  clear hW
  go_wp2_with fail
  refine HT1.mono ?_
  rintro e w1 ⟨rfl, hr1, hb1⟩
  have R11 : Hid (BRow w1 g1 (r.lo.map (255 - ·) ++ [251, 252])) := hr1
  have U1 : Hid (But g1 W w1) := hb1
  have R21 : Hid (BRow w1 g2 (r.hi ++ [251, 252])) := R2.out.same (hb1.other _ (by omega))
  have HT2 := kept_any R21.out (HK2.out.below (hb1.below.mono hB1)) (by omega) l2
  have HY0 : Box w1 w.heap.size _ _ _ := ⟨(hb1.other _ (by omega)).trans HX0.out.row⟩
  have HY1 : Box w1 (w.heap.size + 1) _ _ _ := ⟨(hb1.other _ (by omega)).trans HX1.out.row⟩
  clear p0 p1 p2 q0 q1 q2 HT1 hr1 hb1
  obtain ⟨p0, p1, p2⟩ := HY0.cells
  obtain ⟨q0, q1, q2⟩ := HY1.cells
  clear HY0 HY1
  go_wp2_with fail
  refine HT2.mono ?_
  rintro e w2 ⟨rfl, hr2, hb2⟩
  have R12 : Hid (BRow w2 g1 (r.lo.map (255 - ·) ++ [251, 252])) := R11.out.same (hb2.other _ (by omega))
  have R22 : Hid (BRow w2 g2 (r.hi.map (255 - ·) ++ [251, 252])) := hr2
  have U2 : Hid (But2 B g1 g2 w w2) := ⟨(HBW.out.mono (by omega)).trans ((U1.out.below.mono hB1).trans (hb2.below.mono (by omega))), fun q hq h1 h2 => by rw [hb2.other q h2, U1.out.other q h1, HBW.out.block q hq]⟩
  clear p0 p1 p2 q0 q1 q2 HT2 hr2 hb2
  go_wp2
  go_ret
  exact ⟨rfl, R12.out, R22.out, U2.out⟩
end Go.Proofs.Ytphohkchffcjeaa
