/- order's Compare, Common, Has, of keys in memory. -/
import Derived.Test.YtgifnaahahfhbaaBase
import Derived.Laws.CopyOwn
namespace Go.Proofs.Ytgifnaahahfhbaa
open Go.RowKit

theorem compare_key {w : World} {u v : Value} {x y : Key} (hu : KeyAt w u x) (hv : KeyAt w v y) :
    Calls Try.prog 66 #[u, v] w fun e w' => e = .returned (.int .i64 (cmpK x y)) ∧ ∃ q, w' = w.drewN q := by
  obtain ⟨⟨a, c, rfl, h1, _⟩, h2⟩ := hu
  obtain ⟨⟨a', c', rfl, h1', _⟩, h2'⟩ := hv
  exact compare_any w a a' c c' x y h1 h1' h2 h2'
theorem common_key {w : World} {u v : Value} {x y : Key} (hu : KeyAt w u x) (hv : KeyAt w v y) :
    Calls Try.prog 68 #[u, v] w fun e w' => e = .returned (.int .i64 (comK x y : Int)) ∧ ∃ q, w' = w.drewN q := by
  obtain ⟨⟨a, c, rfl, h1, _⟩, h2⟩ := hu
  obtain ⟨⟨a', c', rfl, h1', _⟩, h2'⟩ := hv
  exact common_any w a a' c c' x y h1 h1' h2 h2'
theorem below_new (w : World) (o : Obj) : Below w.heap.size w (w.alloc o) := (Below.refl _ _).alloc (Nat.le_refl _) _

/-- A range's value is no function's business: three cells. -/
theorem range_one {w : World} {v1 v2 : Value} {x y : Key} (h1 : KeyAt w v1 x) (h2 : KeyAt w v2 y) : v1.oneCell' = true ∧ v2.oneCell' = true := by
  obtain ⟨⟨a, c, rfl, _⟩, _⟩ := h1
  obtain ⟨⟨a', c', rfl, _⟩, _⟩ := h2
  exact ⟨rfl, rfl⟩

set_option maxRecDepth 100000 in
theorem has_any {w : World} {v u : Value} {r : Rg} {k : Key} (h : RangeAt w v r) (hu : KeyAt w u k) :
    Calls Try.prog 51 #[v, u] w fun e w' => e = .returned (.bool (r.has k)) ∧ Below w.heap.size w w' := by
  obtain ⟨v1, v2, rfl, h1, h2⟩ := h.is
  obtain ⟨lo, hi, all⟩ := r
  obtain ⟨⟨a, c, rfl, hb, hx⟩, hl⟩ := h1
  obtain ⟨⟨a', c', rfl, hb', hx'⟩, hl'⟩ := h2
  simp only [Rg.has] at *
  have HB0 : Hid (Below w.heap.size w (w.alloc (.cells #[.slice a lo.length c, .slice a' hi.length c', .bool all] 49))) := below_new _ _
  have H1 : Hid (KeyAt (w.alloc (.cells #[.slice a lo.length c, .slice a' hi.length c', .bool all] 49)) (.slice a lo.length c) lo) := KeyAt.here ⟨⟨a, c, rfl, hb, hx⟩, hl⟩ HB0.out
  have H2 : Hid (KeyAt (w.alloc (.cells #[.slice a lo.length c, .slice a' hi.length c', .bool all] 49)) (.slice a' hi.length c') hi) := KeyAt.here ⟨⟨a', c', rfl, hb', hx'⟩, hl'⟩ HB0.out
  have HU : Hid (KeyAt (w.alloc (.cells #[.slice a lo.length c, .slice a' hi.length c', .bool all] 49)) u k) := hu.here HB0.out
  by_cases hle : lo ≤ k
  · have hz : cmpK lo k ≤ 0 := cmpK_le.2 hle
    cases all with
    | true =>
      go_enter Try.func51, Try.ntmps51
      go_wp2_with (go_at_call 66; refine (compare_key H1.out HU.out).mono ?_; rintro e w' ⟨rfl, q, rfl⟩)
      go_ret
      exact ⟨ret_bool (by simp [hle]), below_draws HB0.out q⟩
    | false =>
      have HE : Hid (decide (cmpK k hi < 0) = decide (k < hi)) := by simp [Hid, cmpK_lt]
      go_enter Try.func51, Try.ntmps51
      go_wp2_with fail
      refine (compare_key H1.out HU.out).mono ?_
      rintro e w' ⟨rfl, q, rfl⟩
      go_wp2_with fail
      refine (compare_key (HU.out.draws q) (H2.out.draws q)).mono ?_
      rintro e w' ⟨rfl, q2, rfl⟩
      go_wp2
      go_ret
      exact ⟨ret_bool (by simp [hle]; simpa using HE.out), below_draws HB0.out _⟩
  · have hz : ¬ cmpK lo k ≤ 0 := fun h => hle (cmpK_le.1 h)
    go_enter Try.func51, Try.ntmps51
    go_wp2_with (go_at_call 66; refine (compare_key H1.out HU.out).mono ?_; rintro e w' ⟨rfl, q, rfl⟩)
    go_ret
    exact ⟨ret_bool (by simp), below_draws HB0.out q⟩

end Go.Proofs.Ytgifnaahahfhbaa
