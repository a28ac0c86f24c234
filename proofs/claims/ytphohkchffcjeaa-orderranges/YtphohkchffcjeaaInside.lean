/- Inside. -/
import Derived.Test.YtphohkchffcjeaaParts
namespace Go.Proofs.Ytphohkchffcjeaa
open Go.RowKit

set_option maxHeartbeats 1600000 in
set_option maxRecDepth 100000 in
theorem inside_any {w : World} {v u : Value} {r o : Rg} (h : RangeAt w v r) (hu : RangeAt w u o) :
    Calls Try.prog 44 #[v, u] w fun e w' => e = .returned (.bool (r.inside o)) ∧ Below w.heap.size w w' := by
  have HR : Hid (RangeAt w v r) := h
  obtain ⟨v1, v2, rfl, h1, h2⟩ := h.in.is
  obtain ⟨u1, u2, rfl, h3, h4⟩ := hu.in.is
  obtain ⟨a1, c1, rfl⟩ := h1.form
  obtain ⟨a2, c2, rfl⟩ := h2.form
  obtain ⟨a3, c3, rfl⟩ := h3.form
  obtain ⟨a4, c4, rfl⟩ := h4.form
  have HK1 : Hid (KeyIn w.heap.size w (.slice a1 r.lo.length c1) r.lo) := h1
  have HK2 : Hid (KeyIn w.heap.size w (.slice a2 r.hi.length c2) r.hi) := h2
  have HK3 : Hid (KeyIn w.heap.size w (.slice a3 o.lo.length c3) o.lo) := h3
  have HK4 : Hid (KeyIn w.heap.size w (.slice a4 o.hi.length c4) o.hi) := h4
  clear h hu h1 h2 h3 h4
  obtain ⟨W, hW⟩ : ∃ W, W = (w.alloc (.cells #[.slice a1 r.lo.length c1, .slice a2 r.hi.length c2, .bool r.all] 36)).alloc (.cells #[.slice a3 o.lo.length c3, .slice a4 o.hi.length c4, .bool o.all] 36) := ⟨_, rfl⟩
  have HB : Hid (Below w.heap.size w W) := by rw [hW]; exact (below_new w _).alloc (by simp) _
  have hx0 : Box W w.heap.size (.slice a1 r.lo.length c1) (.slice a2 r.hi.length c2) (.bool r.all) := by rw [hW]; exact (Box.new _ _ _ _).alloc _
  have hx1 : Box W (w.heap.size + 1) (.slice a3 o.lo.length c3) (.slice a4 o.hi.length c4) (.bool o.all) := by
    rw [hW]
    have := Box.new (w.alloc (.cells #[.slice a1 r.lo.length c1, .slice a2 r.hi.length c2, .bool r.all] 36)) (.slice a3 o.lo.length c3) (.slice a4 o.hi.length c4) (.bool o.all)
    simpa using this
  have HX0 : Hid _ := hx0
  have HX1 : Hid _ := hx1
  obtain ⟨k0, k1, k2⟩ := hx0.cells
  clear hx0 hx1
  go_enter Try.func44, Try.ntmps44
  go_upto_region 1 with fail
  rw [← hW]
  clear hW
  go_wp2_with fail
  refine (empty_any (HR.out.here HB.out)).mono ?_
  rintro e w1 ⟨rfl, hb1⟩
  have HB1 : Hid (Below w.heap.size w w1) := HB.out.trans (hb1.mono HB.out.size)
  clear k0 k1 k2
  obtain ⟨k0, k1, k2⟩ := (HX0.out.here hb1).cells
  obtain ⟨m0, m1, m2⟩ := (HX1.out.here hb1).cells
  clear hb1
  cases he : r.empty with
  | true =>
    go_wp2
    go_ret
    exact ⟨ret_bool (by simp [Rg.inside, he]), HB1.out⟩
  | false =>
    go_wp2_with fail
    refine (compare_key (HK3.out.later rfl HB1.out) (HK1.out.later rfl HB1.out)).mono ?_
    rintro e _ ⟨rfl, q, rfl⟩
    by_cases hle : o.lo ≤ r.lo
    · have hz : cmpK o.lo r.lo ≤ 0 := cmpK_le.2 hle
      cases ho : o.all with
      | true =>
        rw [ho] at m2
        go_wp2
        go_ret
        exact ⟨ret_bool (by simp [Rg.inside, he, ho, hle]), below_draws HB1.out q⟩
      | false =>
        rw [ho] at m2
        cases hr : r.all with
        | true =>
          rw [hr] at k2
          go_wp2
          go_ret
          exact ⟨ret_bool (by simp [Rg.inside, he, ho, hr]), below_draws HB1.out q⟩
        | false =>
          rw [hr] at k2
          go_wp2_with fail
          refine (compare_key ((HK2.out.later rfl HB1.out).draws q) ((HK4.out.later rfl HB1.out).draws q)).mono ?_
          rintro e _ ⟨rfl, q2, rfl⟩
          go_wp2
          go_ret
          exact ⟨ret_bool (by simp [Rg.inside, he, ho, hr, hle, cmpK_le]), below_draws HB1.out _⟩
    · have hz : ¬ cmpK o.lo r.lo ≤ 0 := fun h => hle (cmpK_le.1 h)
      go_wp2
      go_ret
      exact ⟨ret_bool (by simp [Rg.inside, he, hle]), below_draws HB1.out q⟩
end Go.Proofs.Ytphohkchffcjeaa
