/- The document's answers for ranges: SameRange of banyanref04. -/
import Derived.Test.YtphohkchffcjeaaRefForm
namespace Go.Proofs.Ytphohkchffcjeaa
open Go.RowKit

set_option maxHeartbeats 800000 in
set_option maxRecDepth 100000 in
theorem refSameRange_any {w : World} {v u : Value} {r o : Rg} (h : RangeAt w v r) (hu : RangeAt w u o) :
    Calls Try.prog 56 #[v, u] w fun e w' => e = .returned (.bool (decide (r = o))) ∧ Below w.heap.size w w' := by
  obtain ⟨v1, v2, rfl, h1, h2⟩ := h.is
  obtain ⟨u1, u2, rfl, h3, h4⟩ := hu.is
  obtain ⟨W, hW⟩ : ∃ W, W = (w.alloc (.cells #[v1, v2, .bool r.all] 36)).alloc (.cells #[u1, u2, .bool o.all] 36) := ⟨_, rfl⟩
  have HB : Hid (Below w.heap.size w W) := by rw [hW]; exact (below_new w _).alloc (by simp) _
  have hx0 : Box W w.heap.size v1 v2 (.bool r.all) := by rw [hW]; exact (Box.new w _ _ _).alloc _
  have hx1 : Box W (w.heap.size + 1) u1 u2 (.bool o.all) := by
    rw [hW]
    have := Box.new (w.alloc (.cells #[v1, v2, .bool r.all] 36)) u1 u2 (.bool o.all)
    simpa using this
  have C1 := refSame_key (h1.here HB.out) (h3.here HB.out)
  have C2 : Hid (∀ q, Calls Try.prog 62 #[v2, u2] (W.drewN q) fun e w' => e = .returned (.bool (decide (r.hi = o.hi))) ∧ ∃ q', w' = (W.drewN q).drewN q') := fun q => refSame_key ((h2.here HB.out).draws q) ((h4.here HB.out).draws q)
  obtain ⟨a1, c1, rfl, _⟩ := h1.is
  obtain ⟨a2, c2, rfl, _⟩ := h2.is
  obtain ⟨a3, c3, rfl, _⟩ := h3.is
  obtain ⟨a4, c4, rfl, _⟩ := h4.is
  obtain ⟨k0, k1, k2⟩ := hx0.cells
  obtain ⟨m0, m1, m2⟩ := hx1.cells
  have HE : Hid (decide (r = o) = (decide (r.lo = o.lo) && (decide (r.hi = o.hi) && (r.all == o.all)))) := by
    unfold Hid
    rcases r with ⟨_, _, x⟩
    rcases o with ⟨_, _, y⟩
    cases x <;> cases y <;> simp
  generalize decide (r.lo = o.lo) = d1 at C1 HE
  generalize decide (r.hi = o.hi) = d2 at C2 HE
  clear hx0 hx1 h h1 h2 h3 h4 hu
  go_enter Try.func56, Try.ntmps56
  go_wp2_with fail
  rw [← hW]
  clear hW
  refine C1.mono ?_
  rintro e _ ⟨rfl, q, rfl⟩
  go_wp2_with fail
  refine (C2.out q).mono ?_
  rintro e _ ⟨rfl, q2, rfl⟩
  cases d1 <;> cases d2
  all_goals
    go_wp2
    go_ret
    exact ⟨ret_bool (by rw [HE.out]; rfl), below_draws HB.out _⟩
end Go.Proofs.Ytphohkchffcjeaa
