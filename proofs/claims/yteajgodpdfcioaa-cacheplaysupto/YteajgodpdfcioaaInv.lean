/- All that the law's World keeps. -/
import Derived.Test.YteajgodpdfcioaaTurn
namespace Go.Proofs.Yteajgodpdfcioaa
open Go.RowKit Go.Maps

/-- The World, its lists, and its things of lists: each of its own memory. -/
structure Inv (B U n : Nat) (w : World) (W : Nat) (cs ls rs : Nat → Nat) (SC SL : Nat → Ca Value) (SR : Nat → Ca Int) (vc vl vr vo vw : Value) (O N : List (Value × List Int)) : Prop where
  ws : Ws B U n w W cs ls rs SC SL SR vc vl vr vo vw
  bk : Bk w vo vw O N
  ac : ∀ i, i < n → Alike ri (SC i) (SR i)
  al : ∀ i, i < n → Alike (lk w) (SL i) (SR i)
  own : ∀ i, i < n → ∀ t ∈ (SL i).L, ∀ k, t.x.ownBlock = some k → B ≤ k ∧ k < w.heap.size ∧ ∀ p ∈ O ++ N, p.1.ownBlock ≠ some k
  one : ∀ i j, i < n → j < n → ∀ t ∈ (SL i).L, ∀ u ∈ (SL j).L, ∀ k, t.x.ownBlock = some k → u.x.ownBlock = some k → i = j ∧ t.n = u.n
section
variable {B U U' n : Nat} {w w' : World} {W i : Nat} {cs ls rs : Nat → Nat} {SC SL : Nat → Ca Value} {SR : Nat → Ca Int} {vc vl vr vo vw : Value} {O N : List (Value × List Int)} {a b : Ca Value} {c : Ca Int}
/-- A call that puts nothing new in. -/
theorem Inv.less (h : Inv B U n w W cs ls rs SC SL SR vc vl vr vo vw O N) (hi : i < n) (k : After B U' n w W cs ls rs (at_ SC i a) (at_ SL i b) (at_ SR i c) vc vl vr vo vw w') (ha : Alike ri a c) (hb : Alike (lk w) b c) (hl : ∀ t ∈ b.L, ∃ u ∈ (SL i).L, u.n = t.n ∧ u.x = t.x) : Inv B U' n w' W cs ls rs (at_ SC i a) (at_ SL i b) (at_ SR i c) vc vl vr vo vw O N := by
  have from_ : ∀ j, j < n → ∀ t ∈ (at_ SL i b j).L, ∃ u ∈ (SL j).L, u.n = t.n ∧ u.x = t.x := fun j _ t ht => by
    by_cases e : j = i
    · subst e; rw [at_same] at ht; exact hl t ht
    · rw [at_other e] at ht; exact ⟨t, ht, rfl, rfl⟩
  refine ⟨k.1, h.bk.stay k.2.stay, fun j hj => ?_, fun j hj => ?_, fun j hj t ht g hg => ?_, fun j j' hj hj' t ht u hu g hg hg' => ?_⟩
  · by_cases e : j = i
    · subst e; rw [at_same, at_same]; exact ha
    · rw [at_other e, at_other e]; exact h.ac j hj
  · by_cases e : j = i
    · subst e; rw [at_same, at_same]; exact hb.stay k.2.stay
    · rw [at_other e, at_other e]; exact (h.al j hj).stay k.2.stay
  · obtain ⟨u, hu, _, e⟩ := from_ j hj t ht
    obtain ⟨h1, h2, h3⟩ := h.own j hj u hu g (by rw [e]; exact hg)
    exact ⟨h1, Nat.lt_of_lt_of_le h2 k.2.size, h3⟩
  · obtain ⟨t', ht', e1, e2⟩ := from_ j hj t ht
    obtain ⟨u', hu', e3, e4⟩ := from_ j' hj' u hu
    rw [← e1, ← e3]
    exact h.one j j' hj hj' t' ht' u' hu' g (by rw [e2]; exact hg) (by rw [e4]; exact hg')
end
section
variable {X : Type} {s : Ca X} {m : Int}
theorem out_from {L : List (Th X)} : ∀ t ∈ outT m L, ∃ u ∈ L, u.n = t.n ∧ u.x = t.x := fun t ht => ⟨t, (List.mem_filter.1 ht).1, rfl, rfl⟩
theorem get_from : ∀ t ∈ (s.get m).L, ∃ u ∈ s.L, u.n = t.n ∧ u.x = t.x := fun t ht => by
  unfold Ca.get at ht
  cases e : findT m s.L with
  | none => rw [e] at ht; exact ⟨t, ht, rfl, rfl⟩
  | some v =>
    rw [e] at ht
    rcases List.mem_append.1 ht with ht | ht
    · exact out_from t ht
    · simp at ht
      subst ht
      exact ⟨t, (find_some e).1, rfl, rfl⟩
theorem drop_from : ∀ t ∈ (s.drop m).L, ∃ u ∈ s.L, u.n = t.n ∧ u.x = t.x := fun t ht => out_from t ht
theorem pin_from : ∀ t ∈ (s.pin m).L, ∃ u ∈ s.L, u.n = t.n ∧ u.x = t.x := fun t ht => by
  obtain ⟨u, hu, rfl⟩ := List.mem_map.1 ht
  refine ⟨u, hu, ?_⟩
  split <;> exact ⟨rfl, rfl⟩
theorem unpin_from : ∀ t ∈ (s.unpin m).L, ∃ u ∈ s.L, u.n = t.n ∧ u.x = t.x := fun t ht => by
  obtain ⟨u, hu, rfl⟩ := List.mem_map.1 ht
  refine ⟨u, hu, ?_⟩
  split <;> exact ⟨rfl, rfl⟩
theorem put_from {x : X} : ∀ t ∈ (s.put m x).L, (∃ u ∈ s.L, u.n = t.n ∧ u.x = t.x) ∨ t.n = m ∧ t.x = x := fun t ht => by
  unfold Ca.put at ht
  cases e : findT m s.L with
  | some v =>
    rw [e] at ht
    rcases List.mem_append.1 ht with ht | ht
    · exact .inl (out_from t ht)
    · simp at ht
      subst ht
      exact .inr ⟨(find_some e).2, rfl⟩
  | none =>
    rw [e] at ht
    dsimp only at ht
    split at ht
    · rcases List.mem_append.1 ht with ht | ht
      · exact .inl ⟨t, ht, rfl, rfl⟩
      · simp at ht
        subst ht
        exact .inr ⟨rfl, rfl⟩
    · split at ht
      · exact .inl ⟨t, ht, rfl, rfl⟩
      · rcases List.mem_append.1 ht with ht | ht
        · exact .inl (out_from t ht)
        · simp at ht
          subst ht
          exact .inr ⟨rfl, rfl⟩
end
end Go.Proofs.Yteajgodpdfcioaa
