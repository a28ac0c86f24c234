/- The law's sameRange. -/
import Derived.Test.YtaehchijeinloaaSame
import Derived.Test.YtaehchijeinloaaR4Meet
namespace Go.Proofs.Ytaehchijeinloaa
open Go.RowKit

set_option maxRecDepth 100000 in
theorem sameRange_any {w : World} {v u : Value} {r o : Rg} (h : RangeAt w v r) (hu : RangeAt w u o) :
    Calls Try.prog 22 #[v, u] w fun e w' => e = .returned (.bool (decide (r = o))) ∧ Below w.heap.size w w' := by
  obtain ⟨v1, v2, rfl, h1, h2⟩ := h.is
  obtain ⟨u1, u2, rfl, h3, h4⟩ := hu.is
  obtain ⟨W, hW⟩ : ∃ W, W = (w.alloc (.cells #[v1, v2, .bool r.all] 47)).alloc (.cells #[u1, u2, .bool o.all] 47) := ⟨_, rfl⟩
  have HB : Hid (Below w.heap.size w W) := by rw [hW]; exact (below_new w _).alloc (by simp) _
  have hx0 : Box W w.heap.size v1 v2 (.bool r.all) := by rw [hW]; exact (Box.new _ _ _ _).alloc _
  have hx1 : Box W (w.heap.size + 1) u1 u2 (.bool o.all) := by
    rw [hW]
    have := Box.new (w.alloc (.cells #[v1, v2, .bool r.all] 47)) u1 u2 (.bool o.all)
    simpa using this
  have e1 := conv_key (h1.here HB.out)
  have e2 := conv_key (h2.here HB.out)
  have e3 := conv_key (h3.here HB.out)
  have e4 := conv_key (h4.here HB.out)
  obtain ⟨a1, c1, rfl, _⟩ := h1.is
  obtain ⟨a2, c2, rfl, _⟩ := h2.is
  obtain ⟨a3, c3, rfl, _⟩ := h3.is
  obtain ⟨a4, c4, rfl, _⟩ := h4.is
  have s1 := strB_eq r.lo o.lo
  have s2 := strB_eq r.hi o.hi
  obtain ⟨k0, k1, k2⟩ := hx0.cells
  obtain ⟨m0, m1, m2⟩ := hx1.cells
  have HE : Hid (decide (r = o) = ((r.all == o.all) && (decide (r.lo = o.lo) && decide (r.hi = o.hi)))) := by
    unfold Hid
    rcases r with ⟨_, _, x⟩
    rcases o with ⟨_, _, y⟩
    cases x <;> cases y <;> simp
  generalize strB r.lo = S1 at e1 s1
  generalize strB r.hi = S2 at e2 s2
  generalize strB o.lo = S3 at e3 s1
  generalize strB o.hi = S4 at e4 s2
  generalize decide (r.lo = o.lo) = d1 at s1 HE
  generalize decide (r.hi = o.hi) = d2 at s2 HE
  generalize r.all = b1 at *
  generalize o.all = b2 at *
  clear hx0 hx1 h h1 h2 h3 h4 hu
  go_enter Try.func22, Try.ntmps22
  go_upto_region 1 with fail
  rw [← hW]
  clear hW
  cases b1 <;> cases b2 <;> cases d1 <;> cases d2
  all_goals
    go_wp2
    go_ret
    exact ⟨ret_bool (by rw [HE.out]; rfl), HB.out⟩
end Go.Proofs.Ytaehchijeinloaa
