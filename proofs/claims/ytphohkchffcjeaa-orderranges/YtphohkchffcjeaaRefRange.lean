/- The document's answers for ranges: Empty, Has of banyanref04. -/
import Derived.Test.YtphohkchffcjeaaRef2
namespace Go.Proofs.Ytphohkchffcjeaa
open Go.RowKit

set_option maxRecDepth 100000 in
theorem refEmpty_any {w : World} {v : Value} {r : Rg} (h : RangeAt w v r) :
    Calls Try.prog 41 #[v] w fun e w' => e = .returned (.bool r.empty) ∧ Below w.heap.size w w' := by
  obtain ⟨v1, v2, rfl, h1, h2⟩ := h.is
  obtain ⟨lo, hi, all⟩ := r
  obtain ⟨⟨a, c, rfl, hb, hx⟩, hl⟩ := h1
  obtain ⟨⟨a', c', rfl, hb', hx'⟩, hl'⟩ := h2
  simp only [Rg.empty] at *
  have HB0 : Hid (Below w.heap.size w (w.alloc (.cells #[.slice a lo.length c, .slice a' hi.length c', .bool all] 36))) := below_new _ _
  have HCO := refCompare_key (KeyAt.here ⟨⟨a, c, rfl, hb, hx⟩, hl⟩ HB0.out) (KeyAt.here ⟨⟨a', c', rfl, hb', hx'⟩, hl'⟩ HB0.out)
  have HE : Hid (decide (0 ≤ cmpK lo hi) = decide (hi ≤ lo)) := by simp [Hid, cmpK_ge]
  clear hb hb' h
  cases all with
  | true =>
    go_enter Try.func41, Try.ntmps41
    go_wp2_with (go_at_call 33; refine HCO.mono ?_; rintro e w' ⟨rfl, q, rfl⟩)
    go_ret
    exact ⟨rfl, below_draws HB0.out q⟩
  | false =>
    go_enter Try.func41, Try.ntmps41
    go_wp2_with (go_at_call 33; refine HCO.mono ?_; rintro e w' ⟨rfl, q, rfl⟩)
    go_ret
    exact ⟨ret_bool (by simpa using HE.out), below_draws HB0.out q⟩

set_option maxRecDepth 100000 in
theorem refHas_any {w : World} {v u : Value} {r : Rg} {k : Key} (h : RangeAt w v r) (hu : KeyAt w u k) :
    Calls Try.prog 43 #[v, u] w fun e w' => e = .returned (.bool (r.has k)) ∧ Below w.heap.size w w' := by
  obtain ⟨v1, v2, rfl, h1, h2⟩ := h.is
  obtain ⟨lo, hi, all⟩ := r
  obtain ⟨⟨a, c, rfl, hb, hx⟩, hl⟩ := h1
  obtain ⟨⟨a', c', rfl, hb', hx'⟩, hl'⟩ := h2
  obtain ⟨a3, c3, rfl, _⟩ := hu.is
  simp only [Rg.has] at *
  have HB0 : Hid (Below w.heap.size w (w.alloc (.cells #[.slice a lo.length c, .slice a' hi.length c', .bool all] 36))) := below_new _ _
  have H1 : Hid (KeyAt (w.alloc (.cells #[.slice a lo.length c, .slice a' hi.length c', .bool all] 36)) (.slice a lo.length c) lo) := KeyAt.here ⟨⟨a, c, rfl, hb, hx⟩, hl⟩ HB0.out
  have H2 : Hid (KeyAt (w.alloc (.cells #[.slice a lo.length c, .slice a' hi.length c', .bool all] 36)) (.slice a' hi.length c') hi) := KeyAt.here ⟨⟨a', c', rfl, hb', hx'⟩, hl'⟩ HB0.out
  have HU : Hid (KeyAt (w.alloc (.cells #[.slice a lo.length c, .slice a' hi.length c', .bool all] 36)) (.slice a3 k.length c3) k) := hu.here HB0.out
  clear hb hb' h hu
  have HE : Hid (decide (lo ≤ k) = !decide (k < lo)) := by
    rw [Hid, Bool.eq_iff_iff]
    simp
  generalize hd1 : decide (k < lo) = d1 at HE
  generalize hd2 : decide (k < hi) = d2
  have C1 := refLess_key HU.out H1.out
  rw [hd1] at C1
  have C2 : Hid (∀ q, Calls Try.prog 51 #[.slice a3 k.length c3, .slice a' hi.length c'] ((w.alloc (.cells #[.slice a lo.length c, .slice a' hi.length c', .bool all] 36)).drewN q) fun e w' => e = .returned (.bool d2) ∧ ∃ q', w' = ((w.alloc (.cells #[.slice a lo.length c, .slice a' hi.length c', .bool all] 36)).drewN q).drewN q') := fun q => by
    have := refLess_key (HU.out.draws q) (H2.out.draws q)
    rw [hd2] at this
    exact this
  clear hd1 hd2
  cases all <;> cases d1 <;> cases d2
  all_goals
    go_enter Try.func43, Try.ntmps43
    go_wp2_with fail
    refine C1.mono ?_
    rintro e _ ⟨rfl, q, rfl⟩
    go_wp2_with fail
    refine (C2.out q).mono ?_
    rintro e _ ⟨rfl, q2, rfl⟩
    go_wp2
    go_ret
    exact ⟨ret_bool (by rw [HE.out]; rfl), below_draws HB0.out _⟩
end Go.Proofs.Ytphohkchffcjeaa
