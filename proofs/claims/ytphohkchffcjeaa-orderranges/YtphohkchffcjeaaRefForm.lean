/- The document's answers for ranges: Form of banyanref04. -/
import Derived.Test.YtphohkchffcjeaaRefRange
import Derived.Test.YtphohkchffcjeaaForm
namespace Go.Proofs.Ytphohkchffcjeaa
open Go.RowKit

set_option maxHeartbeats 1600000 in
set_option maxRecDepth 100000 in
theorem refForm_any {w : World} {v : Value} {r : Rg} (h : RangeAt w v r) :
    Calls Try.prog 53 #[v] w fun e w' => ∃ v', e = .returned v' ∧ NewRange w.heap.size w' v' r.form ∧ Below w.heap.size w w' := by
  obtain ⟨v1, v2, rfl, h1, h2⟩ := h.is
  obtain ⟨lo, hi, all⟩ := r
  obtain ⟨⟨a, c, rfl, hb, hx⟩, hl⟩ := h1
  obtain ⟨⟨a', c', rfl, hb', hx'⟩, hl'⟩ := h2
  simp only at *
  have HE0 : Hid (RangeAt w (.agg #[.slice a lo.length c, .slice a' hi.length c', .bool all]) ⟨lo, hi, all⟩) := h
  have HK1 : Hid (KeyAt w (.slice a lo.length c) lo) := ⟨⟨a, c, rfl, hb, hx⟩, hl⟩
  have HK2 : Hid (KeyAt w (.slice a' hi.length c') hi) := ⟨⟨a', c', rfl, hb', hx'⟩, hl'⟩
  clear h hb hb' hx hx' hl hl'
  go_enter Try.func53, Try.ntmps53
  go_wp2_with fail
  obtain ⟨W, hW⟩ : ∃ W, W = (w.alloc (.cells #[.slice a lo.length c, .slice a' hi.length c', .bool all] 36)).alloc (.cells #[.slice none 0 0, .slice none 0 0, .bool false] 36) := ⟨_, rfl⟩
  rw [← hW]
  have hbW : Below w.heap.size w W := by rw [hW]; exact (below_new w _).alloc (by simp) _
  have hsW : W.heap.size = w.heap.size + 2 := by rw [hW]; simp
  have hx0 : Box W w.heap.size (.slice a lo.length c) (.slice a' hi.length c') (.bool all) := by rw [hW]; exact (Box.new w _ _ _).alloc _
  have hx1 : Box W (w.heap.size + 1) (.slice none 0 0) (.slice none 0 0) (.bool false) := by
    rw [hW]
    have := Box.new (w.alloc (.cells #[.slice a lo.length c, .slice a' hi.length c', .bool all] 36)) (.slice none 0 0) (.slice none 0 0) (.bool false)
    simpa using this
  clear hW
  refine (refEmpty_any (HE0.out.here hbW)).mono ?_
  rintro _ w1 ⟨rfl, hb1⟩
  have hy0 := hx0.here hb1
  have hy1 := hx1.here hb1
  have HY0 : Hid (Box w1 w.heap.size (.slice a lo.length c) (.slice a' hi.length c') (.bool all)) := hy0
  have HY1 : Hid (Box w1 (w.heap.size + 1) (.slice none 0 0) (.slice none 0 0) (.bool false)) := hy1
  have HBW1 : Hid (Below w.heap.size w w1) := hbW.trans (hb1.mono (by rw [hsW]; omega))
  obtain ⟨k0, k1, k2⟩ := hy0.cells
  obtain ⟨r0, r1, r2⟩ := hy1.cells
  obtain ⟨g0, g1, g2⟩ := hy1.open
  clear hb1 hy0 hy1 hx0 hx1 hbW hsW
  cases he : Rg.empty ⟨lo, hi, all⟩ with
  | true =>
    have HF : Hid (Rg.form ⟨lo, hi, all⟩ = Rg.zero) := by simp [Hid, Rg.form, he]
    clear he
    go_wp2
    refine bodyPost_ret (ret_box rfl rfl (put3_box HY1.out)) rfl ⟨_, rfl, ?_, put3_below HBW1.out (by omega) _ _ _⟩
    rw [HF.out]
    exact NewRange.zero _ _
  | false =>
    cases all with
    | true =>
      have HF : Hid (Rg.form ⟨lo, hi, true⟩ = ⟨lo, [], true⟩) := by simp [Hid, Rg.form, he]
      clear he
      go_wp2_with fail
      refine (refCopy_any (HK1.out.here HBW1.out)).mono ?_
      rintro _ w2 ⟨u, rfl, hu, hb2⟩
      obtain ⟨a2, c2, rfl, _, _⟩ := hu.at.is
      have HU : Hid (NewKey w1.heap.size w2 (.slice a2 lo.length c2) lo) := hu
      have HB2 : Hid (Below w.heap.size w w2) := HBW1.out.trans (hb2.mono HBW1.out.size)
      have HZ1 : Hid (Box w2 (w.heap.size + 1) (.slice none 0 0) (.slice none 0 0) (.bool false)) := HY1.out.here hb2
      clear k0 k1 k2 r0 r1 r2 g0 g1 g2 hu hb2
      obtain ⟨r0, r1, r2⟩ := HZ1.out.cells
      obtain ⟨g0, g1, g2⟩ := HZ1.out.open
      go_wp2
      refine bodyPost_ret (ret_box rfl rfl (put3_box HZ1.out)) rfl ⟨_, rfl, ?_, put3_below HB2.out (by omega) _ _ _⟩
      rw [HF.out]
      exact ⟨_, _, rfl, (HU.out.mono HBW1.out.size).put3 HZ1.out _ _ _, NewKey.nil _ _, fun k _ h => by cases h⟩
    | false =>
      have HF : Hid (Rg.form ⟨lo, hi, false⟩ = ⟨lo, hi, false⟩) := by simp [Hid, Rg.form, he]
      clear he
      go_wp2_with fail
      go_region_held_law (fun W' => W'.cell? ⟨w.heap.size, 0, none⟩ = some (.slice a lo.length c) ∧ W'.cell? ⟨w.heap.size, 1, none⟩ = some (.slice a' hi.length c')) (first | go_keep | (constructor <;> assumption))
        (first
          | (go_at_call_of 52 (Value.slice a lo.length c); refine (refCopy_any ((HK1.out.here HBW1.out).here ((Below.refl _ w1).drew))).mono ?_
             rintro _ w2 ⟨u, rfl, hu, hb2⟩
             obtain ⟨a2, c2, rfl, _, _⟩ := hu.at.is
             have HU : Hid (NewKey w1.heap.size w2 (.slice a2 lo.length c2) lo) := hu
             have HB2 : Hid (Below w1.heap.size w1 w2) := ((Below.refl _ w1).drew).trans hb2
             have HBW2 : Hid (Below w.heap.size w w2) := HBW1.out.trans (HB2.out.mono HBW1.out.size)
             clear hu hb2
             obtain ⟨p0, p1, p2⟩ := (HY0.out.here HB2.out).cells
             obtain ⟨q0, q1, q2⟩ := (HY1.out.here HB2.out).cells
             obtain ⟨o0, o1, o2⟩ := (HY1.out.here HB2.out).open)
          | (go_at_call_of 52 (Value.slice a' hi.length c'); refine (refCopy_any (HK2.out.here HBW2.out)).mono ?_
             rintro _ w3 ⟨u, rfl, hu, hb2⟩
             obtain ⟨a3, c3, rfl, _, _⟩ := hu.at.is
             have HU3 : Hid (NewKey w2.heap.size w3 (.slice a3 hi.length c3) hi) := hu
             have HU2 : Hid (NewKey w1.heap.size w3 (.slice a2 lo.length c2) lo) := HU.out.here hb2
             have HB3 : Hid (Below w2.heap.size w2 w3) := hb2
             have HBW3 : Hid (Below w.heap.size w w3) := HBW2.out.trans (hb2.mono HBW2.out.size)
             have HZ1 : Hid (Box w3 (w.heap.size + 1) (.slice none 0 0) (.slice none 0 0) (.bool false)) := (HY1.out.here HB2.out).here hb2
             clear hu hb2
             obtain ⟨s0, s1, s2⟩ := ((HY0.out.here HB2.out).here HB3.out).cells
             obtain ⟨t0, t1, t2⟩ := HZ1.out.cells
             obtain ⟨n0, n1, n2⟩ := HZ1.out.open))
      go_wp2
      refine bodyPost_ret (ret_box rfl rfl (put3_box HZ1.out)) rfl ⟨_, rfl, ?_, put3_below HBW3.out (by omega) _ _ _⟩
      rw [HF.out]
      exact ⟨_, _, rfl, (HU2.out.mono HBW1.out.size).put3 HZ1.out _ _ _, (HU3.out.mono (Nat.le_trans HBW1.out.size HB2.out.size)).put3 HZ1.out _ _ _, HU.out.apart HU3.out (Nat.le_refl _)⟩
end Go.Proofs.Ytphohkchffcjeaa
