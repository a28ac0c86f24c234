/- step: any. -/
import Derived.Test.YteajgodpdfcioaaStepU
namespace Go.Proofs.Yteajgodpdfcioaa
open Go.RowKit Go.Maps

theorem Al.of {B U U' n : Nat} {w : World} {W K K' : Nat} {cs ls rs : Nat → Nat} {SC SL : Nat → Ca Value} {SR : Nat → Ca Int} {vc vl vr vo vw : Value} {O N : List (Value × List Int)} (h : Inv B U n w W cs ls rs SC SL SR vc vl vr vo vw O N) (hU : U ≤ U') (hK : O.length ≤ K) (hKK : K ≤ K') (hp : ∀ p ∈ O ++ N, (∀ k, p.1.ownBlock = some k → B ≤ k) ∧ p.2.length ≤ 65536) : Al B U' w W K' :=
  ⟨n, cs, ls, rs, SC, SL, SR, vc, vl, vr, vo, vw, O, N, h.mono hU, Nat.le_trans hK hKK, hp⟩
theorem step_any {B U : Nat} {w : World} {W K : Nat} (h : Al B U w W K) {k o m x : Int} (ho : (Lit.int .i64 o).wf = true) (hm : (Lit.int .i64 m).wf = true) (hU : U + 9 < 4611686018427387904) (hK : K + 2 ≤ 1099511627776) :
    Calls Try.prog 8 #[ptr W, .agg #[.int .i64 k, .int .i64 o, .int .i64 m, .int .i64 x]] w fun r w' => r = .returned (.bool true) ∧ Al B (U + 9) w' W (K + 2) ∧ Below B w w' := by
  obtain ⟨n, cs, ls, rs, SC, SL, SR, vc, vl, vr, vo, vw, O, N, h, hk, hp⟩ := h
  have hB := h.ws.hB
  by_cases k1 : k = 1
  · subst k1
    refine (step_new h).mono ?_
    rintro r w' ⟨rfl, n', cs', ls', rs', SC', SL', SR', vc', vl', vr', h1, h2⟩
    exact ⟨rfl, Al.of h1 (by omega) hk (by omega) hp, h2⟩
  by_cases hn : n = 0
  · subst hn
    refine (step_none h k1).mono ?_
    rintro r w' ⟨rfl, h1⟩
    exact ⟨rfl, Al.of (h.below h1) (by omega) hk (by omega) hp, h1.mono hB⟩
  have hn0 : 0 < n := by omega
  by_cases k2 : k = 2
  · subst k2
    refine (step_get h hn0 ho hm (by omega)).mono ?_
    rintro r w' ⟨rfl, SC', SL', SR', h1, h2⟩
    exact ⟨rfl, Al.of h1 (by omega) hk (by omega) hp, h2⟩
  by_cases k3 : k = 3
  · subst k3
    refine (step_put h hn0 ho hm (by omega)).mono ?_
    rintro r w' ⟨rfl, SC', SL', SR', h1, h2⟩
    exact ⟨rfl, Al.of h1 (by omega) hk (by omega) hp, h2⟩
  by_cases k4 : k = 4
  · subst k4
    refine (step_drop h hn0 ho hm (by omega)).mono ?_
    rintro r w' ⟨rfl, SC', SL', SR', h1, h2⟩
    exact ⟨rfl, Al.of h1 (by omega) hk (by omega) hp, h2⟩
  by_cases k5 : k = 5
  · subst k5
    refine (step_pin h hn0 ho hm (by omega)).mono ?_
    rintro r w' ⟨rfl, SC', SL', SR', h1, h2⟩
    exact ⟨rfl, Al.of h1 (by omega) hk (by omega) hp, h2⟩
  by_cases k6 : k = 6
  · subst k6
    refine (step_unpin h hn0 ho hm (by omega)).mono ?_
    rintro r w' ⟨rfl, SC', SL', SR', h1, h2⟩
    exact ⟨rfl, Al.of h1 (by omega) hk (by omega) hp, h2⟩
  by_cases k7 : k = 7
  · subst k7
    refine (step_tell h hn0 ho hm (by omega) (by omega)).mono ?_
    rintro r w' ⟨rfl, vo', vw', O', N', h1, h2, h3, h4⟩
    exact ⟨rfl, Al.of h1 (by omega) (Nat.le_refl _) (by omega) (fun p hp' => (h4 p hp').elim (hp p) id), h2⟩
  by_cases k8 : k = 8
  · subst k8
    refine (step_turn h hn0 ho hm hU).mono ?_
    rintro r w' ⟨rfl, SC', SL', SR', h1, h2⟩
    exact ⟨rfl, Al.of h1 (by omega) hk (by omega) hp, h2⟩
  refine (step_other h hn0 ho (by omega)).mono ?_
  rintro r w' ⟨rfl, h1⟩
  exact ⟨rfl, Al.of (h.below h1) (by omega) hk (by omega) hp, h1.mono hB⟩
/-- tells, of each cache there is. -/
theorem tells_al {B U : Nat} {w : World} {W i : Nat} {n : Nat} {cs ls rs : Nat → Nat} {SC SL : Nat → Ca Value} {SR : Nat → Ca Int} {vc vl vr vo vw : Value} {O N : List (Value × List Int)} (h : Inv B U n w W cs ls rs SC SL SR vc vl vr vo vw O N) (hi : i < n) (hO : O.length + 2 ≤ 1099511627776) :
    Calls Try.prog 9 #[ptr W, .int .i64 (i : Int)] w fun r w' => r = .returned (.bool true) ∧ ∃ vo' vw' O' N', Inv B U n w' W cs ls rs SC SL SR vc vl vr vo' vw' O' N' ∧ Below B w w' ∧ O'.length = O.length + 2 ∧ (∀ p ∈ O' ++ N', p ∈ O ++ N ∨ (∀ k, p.1.ownBlock = some k → B ≤ k) ∧ p.2.length ≤ 65536) := by
  refine (tells_any h.ws h.bk hi (h.ac i hi) (h.al i hi) hO).mono ?_
  rintro r w' ⟨rfl, vo', vw', O', N', k⟩
  exact ⟨rfl, vo', vw', O', N', h.told k, k.low, k.len, fun p hp => (k.new p hp).imp id fun e => ⟨fun j hj => Nat.le_trans h.ws.hB (e.1 j hj), e.2⟩⟩
/-- A World that has nothing. -/
theorem al_new {w : World} {B W : Nat} (hW : w.heap[W]? = some (.cells #[.slice none 0 0, .slice none 0 0, .slice none 0 0, .slice none 0 0, .slice none 0 0] 30 (0, 0))) (hB : B ≤ w.heap.size) (hBW : B ≤ W) : Al B 0 w W 0 := by
  refine ⟨0, fun _ => 0, fun _ => 0, fun _ => 0, fun _ => ⟨0, 0, 0, []⟩, fun _ => ⟨0, 0, 0, []⟩, fun _ => ⟨0, 0, 0, []⟩, _, _, _, _, _, [], [], ⟨⟨hW, World.ownsRow_nil _ _ _ _, World.ownsRow_nil _ _ _ _, World.ownsRow_nil _ _ _ _, ⟨fun _ _ => False, fun _ _ => False, fun _ _ => False, ?_⟩, by omega, hB, hBW, fun k hk => ?_⟩, ?_, fun i hi => ?_, fun i hi => ?_, fun i hi => ?_, fun i j hi => ?_⟩, Nat.le_refl _, fun p hp => ?_⟩
  · exact ⟨fun i hi => by omega, fun i hi => by omega, fun i hi => by omega, fun i j k hi => by omega, fun i j k hi => by omega, fun i j k hi => by omega, fun i j k hi => by omega, fun i k hi => by omega⟩
  · rcases hk with h | h | h | h | h <;> cases h
  · exact ⟨World.ownsRow_nil _ _ _ _, World.ownsRow_nil _ _ _ _, fun k hk => (by cases hk), fun p hp => (by cases hp), fun p hp => (by cases hp), rfl, .nil⟩
  · omega
  · omega
  · omega
  · omega
  · cases hp
theorem own_base {w : World} {B e n k : Nat} {v : Value} {xs : List Value} (h : w.ownsRow 0 e k v n xs) (hb : ∀ j, v.ownBlock = some j → B ≤ j) : w.ownsRow B e k v n xs := by
  obtain ⟨h1, h2⟩ := h
  refine ⟨h1, ?_⟩
  rcases h2 with h2 | ⟨g, cap, cur, rfl, _, hg⟩
  · exact .inl h2
  · exact .inr ⟨g, cap, cur, rfl, hb g rfl, hg⟩
theorem alone_of {O : List (Value × List Int)} (h : O.Pairwise fun p q => ∀ k, p.1.ownBlock = some k → q.1.ownBlock ≠ some k) : ∀ (i j : Nat) v bs v' bs' k, O[i]? = some (v, bs) → O[j]? = some (v', bs') → v.ownBlock = some k → v'.ownBlock = some k → i = j := fun i j v bs v' bs' k hi hj h1 h2 => by
  obtain ⟨li, ei⟩ := List.getElem?_eq_some_iff.1 hi
  obtain ⟨lj, ej⟩ := List.getElem?_eq_some_iff.1 hj
  rw [List.pairwise_iff_getElem] at h
  rcases Nat.lt_trichotomy i j with e | e | e
  · have := h i j li lj e k (by rw [ei]; exact h1)
    rw [ej] at this
    exact absurd h2 this
  · exact e
  · have := h j i lj li e k (by rw [ej]; exact h2)
    rw [ei] at this
    exact absurd h1 this
end Go.Proofs.Yteajgodpdfcioaa
