/- The small functions of order: Compare, Empty, anew. -/
import Derived.Test.YtaehchijeinloaaBase
import Derived.Laws.CopyOwn
namespace Go.Proofs.Ytaehchijeinloaa
open Go.RowKit

theorem compare_key {w : World} {u v : Value} {x y : Key} (hu : KeyAt w u x) (hv : KeyAt w v y) :
    Calls Try.prog 53 #[u, v] w fun e w' => e = .returned (.int .i64 (cmpK x y)) ∧ ∃ q, w' = w.drewN q := by
  obtain ⟨⟨a, c, rfl, h1, _⟩, h2⟩ := hu
  obtain ⟨⟨a', c', rfl, h1', _⟩, h2'⟩ := hv
  exact compare_any w a a' c c' x y h1 h1' h2 h2'
theorem common_key {w : World} {u v : Value} {x y : Key} (hu : KeyAt w u x) (hv : KeyAt w v y) :
    Calls Try.prog 63 #[u, v] w fun e w' => e = .returned (.int .i64 (comK x y : Int)) ∧ ∃ q, w' = w.drewN q := by
  obtain ⟨⟨a, c, rfl, h1, _⟩, h2⟩ := hu
  obtain ⟨⟨a', c', rfl, h1', _⟩, h2'⟩ := hv
  exact common_any w a a' c c' x y h1 h1' h2 h2'
theorem below_new (w : World) (o : Obj) : Below w.heap.size w (w.alloc o) := (Below.refl _ _).alloc (Nat.le_refl _) _

/-- A range's value is no function's business: three cells. -/
theorem range_one {w : World} {v1 v2 : Value} {x y : Key} (h1 : KeyAt w v1 x) (h2 : KeyAt w v2 y) : v1.oneCell' = true ∧ v2.oneCell' = true := by
  obtain ⟨⟨a, c, rfl, _⟩, _⟩ := h1
  obtain ⟨⟨a', c', rfl, _⟩, _⟩ := h2
  exact ⟨rfl, rfl⟩

set_option maxRecDepth 100000 in
theorem empty_any {w : World} {v : Value} {r : Rg} (h : RangeAt w v r) :
    Calls Try.prog 65 #[v] w fun e w' => e = .returned (.bool r.empty) ∧ Below w.heap.size w w' := by
  obtain ⟨v1, v2, rfl, h1, h2⟩ := h.is
  obtain ⟨lo, hi, all⟩ := r
  obtain ⟨⟨a, c, rfl, hb, hx⟩, hl⟩ := h1
  obtain ⟨⟨a', c', rfl, hb', hx'⟩, hl'⟩ := h2
  simp only [Rg.empty] at *
  have HB0 : Hid (Below w.heap.size w (w.alloc (.cells #[.slice a lo.length c, .slice a' hi.length c', .bool all] 47))) := below_new _ _
  have HCO := compare_key (KeyAt.here ⟨⟨a, c, rfl, hb, hx⟩, hl⟩ HB0.out) (KeyAt.here ⟨⟨a', c', rfl, hb', hx'⟩, hl'⟩ HB0.out)
  cases all with
  | true =>
    go_enter Try.func65, Try.ntmps65
    go_wp2
    go_ret
    exact ⟨rfl, HB0.out⟩
  | false =>
    have HE : Hid (decide (0 ≤ cmpK lo hi) = decide (hi ≤ lo)) := by simp [Hid, cmpK_ge]
    go_enter Try.func65, Try.ntmps65
    go_wp2_with (go_at_call 53; refine HCO.mono ?_; rintro e w' ⟨rfl, q, rfl⟩)
    go_ret
    exact ⟨ret_bool (by simpa using HE.out), below_draws HB0.out q⟩

set_option maxRecDepth 100000 in
theorem anew_any {w : World} {v : Value} {k : Key} (h : KeyAt w v k) :
    Calls Try.prog 66 #[v] w fun e w' => ∃ v', e = .returned v' ∧ NewKey w.heap.size w' v' k ∧ Below w.heap.size w w' := by
  obtain ⟨i0, hi, hz0, hz1, hz2⟩ := info5'
  obtain ⟨⟨a, c, rfl, hb, hx, hn⟩, hl⟩ := h
  have HB : Hid (BytesAt w.heap.size w a k) := hb
  clear hb
  cases a with
  | none =>
    have h0 : k = [] := by
      cases k with
      | nil => rfl
      | cons b r => obtain ⟨_, _, e, _⟩ := HB.out 0 b rfl; cases e
    subst h0
    obtain rfl := hn rfl
    go_enter Try.func66, Try.ntmps66
    go_wp2_with (at_builtin; refine wpList_append_own_none rfl _ _ 27 rfl w.heap.size 5 i0 1 Try.underlying27 hi _ _ _ rfl (World.ownsRow_nil _ _ _ _) rfl ?_)
    go_ret
    exact ⟨_, rfl, NewKey.nil _ _, Below.refl _ _⟩
  | some ad =>
    have HC : Hid (∀ (j : Nat) (u : Value), (k.map encB)[j]? = some u → w.cell? (ad.add j) = some u) := by
      intro j u hj
      rw [List.getElem?_map] at hj
      cases e : k[j]? with
      | none => rw [e] at hj; cases hj
      | some b =>
        rw [e] at hj
        cases hj
        obtain ⟨g', off, e1, _, hc⟩ := HB.out j b e
        cases e1
        rw [add_at]
        exact hc
    have HO : Hid (∀ u ∈ k.map encB, u.oneCell' = true) := by
      intro u hu
      obtain ⟨b, _, rfl⟩ := List.mem_map.1 hu
      rfl
    go_enter Try.func66, Try.ntmps66
    go_wp2_with (at_builtin; refine wpList_append_own w rfl _ _ 27 rfl w.heap.size 5 i0 (.int .u8 0) 1 1 Try.underlying27 hi hz0 hz1 hz2 rfl (by decide) _ 0 [] rfl (World.ownsRow_nil _ _ _ _) ad k.length c (k.map encB) rfl (by simp) HC.out HO.out (by unfold maxLen; omega) (by omega) (Nat.le_refl _) ?_
                 intro v' w' hown hgr hiff
                 have HOW : Hid _ := hown
                 have HGR : Hid _ := hgr
                 clear hown hgr hiff)
    go_ret
    refine ⟨_, rfl, ⟨?_, hl⟩, (Below.refl _ _).grown HGR.out (Nat.le_refl _) (fun k e => by cases e)⟩
    have := HOW.out
    rw [Nat.zero_add, List.nil_append] at this
    exact this
end Go.Proofs.Ytaehchijeinloaa
