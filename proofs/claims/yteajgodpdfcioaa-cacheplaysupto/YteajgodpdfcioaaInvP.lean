/- The World's invariant behind Put, tells and made. -/
import Derived.Test.YteajgodpdfcioaaInv
namespace Go.Proofs.Yteajgodpdfcioaa
open Go.RowKit Go.Maps
section
variable {B U U' n : Nat} {w w' : World} {W i : Nat} {cs ls rs : Nat → Nat} {SC SL : Nat → Ca Value} {SR : Nat → Ca Int} {vc vl vr vo vw : Value} {O N : List (Value × List Int)}
theorem Bk.lt (h : Bk w vo vw O N) : ∀ p ∈ O ++ N, ∀ k, p.1.ownBlock = some k → k < w.heap.size := fun p hp k hk => by
  rcases List.mem_append.1 hp with hp | hp
  · exact (own_type (h.outs p hp) k hk).1
  · exact (own_type (h.copies p hp) k hk).1
/-- A thing put in: of new memory. -/
theorem Inv.put {a : Ca Value} {c : Ca Int} {m : Int} {g : Nat} {x : Int} (hB : B ≤ w.heap.size) (bk : Bk w vo vw O N) (hac : ∀ j, j < n → j ≠ i → Alike ri (SC j) (SR j)) (hal : ∀ j, j < n → j ≠ i → Alike (lk w) (SL j) (SR j))
    (own : ∀ i, i < n → ∀ t ∈ (SL i).L, ∀ k, t.x.ownBlock = some k → B ≤ k ∧ k < w.heap.size ∧ ∀ p ∈ O ++ N, p.1.ownBlock ≠ some k) (one : ∀ i j, i < n → j < n → ∀ t ∈ (SL i).L, ∀ u ∈ (SL j).L, ∀ k, t.x.ownBlock = some k → u.x.ownBlock = some k → i = j ∧ t.n = u.n)
    (k : After B U' n w W cs ls rs (at_ SC i a) (at_ SL i ((SL i).put m (.slice (some ⟨g, 0, none⟩) 1 1))) (at_ SR i c) vc vl vr vo vw w') (hg : w.heap.size ≤ g) (hc : w'.heap[g]? = some (.cells #[.int .i64 x] 3 (0, 0))) (ha : Alike ri a c) (hb : Alike (lk w') ((SL i).put m (.slice (some ⟨g, 0, none⟩) 1 1)) c) :
    Inv B U' n w' W cs ls rs (at_ SC i a) (at_ SL i ((SL i).put m (.slice (some ⟨g, 0, none⟩) 1 1))) (at_ SR i c) vc vl vr vo vw O N := by
  have from_ : ∀ j, j < n → ∀ t ∈ (at_ SL i ((SL i).put m (.slice (some ⟨g, 0, none⟩) 1 1)) j).L, (∃ u ∈ (SL j).L, u.n = t.n ∧ u.x = t.x) ∨ j = i ∧ t.n = m ∧ t.x = .slice (some ⟨g, 0, none⟩) 1 1 := fun j _ t ht => by
    by_cases e : j = i
    · subst e
      rw [at_same] at ht
      rcases put_from t ht with h | h
      · exact .inl h
      · exact .inr ⟨rfl, h⟩
    · rw [at_other e] at ht; exact .inl ⟨t, ht, rfl, rfl⟩
  have hgl : g < w'.heap.size := (Array.getElem?_eq_some_iff.1 hc).1
  refine ⟨k.1, bk.stay k.2.stay, fun j hj => ?_, fun j hj => ?_, fun j hj t ht q hq => ?_, fun j j' hj hj' t ht u hu q hq hq' => ?_⟩
  · by_cases e : j = i
    · subst e; rw [at_same, at_same]; exact ha
    · rw [at_other e, at_other e]; exact hac j hj e
  · by_cases e : j = i
    · subst e; rw [at_same, at_same]; exact hb
    · rw [at_other e, at_other e]; exact (hal j hj e).stay k.2.stay
  · rcases from_ j hj t ht with ⟨u, hu, _, e⟩ | ⟨_, _, e⟩
    · obtain ⟨h1, h2, h3⟩ := own j hj u hu q (by rw [e]; exact hq)
      exact ⟨h1, Nat.lt_of_lt_of_le h2 k.2.size, h3⟩
    · rw [e] at hq
      cases hq
      exact ⟨Nat.le_trans hB hg, hgl, fun p hp e => by have := bk.lt p hp _ e; exact absurd hg (Nat.not_le.2 this)⟩
  · rcases from_ j hj t ht with ⟨t', ht', e1, e2⟩ | ⟨e0, e1, e2⟩ <;> rcases from_ j' hj' u hu with ⟨u', hu', e3, e4⟩ | ⟨e5, e3, e4⟩
    · rw [← e1, ← e3]
      exact one j j' hj hj' t' ht' u' hu' q (by rw [e2]; exact hq) (by rw [e4]; exact hq')
    · rw [e4] at hq'
      cases hq'
      exact absurd hg (Nat.not_le.2 (own j hj t' ht' _ (by rw [e2]; exact hq)).2.1)
    · rw [e2] at hq
      cases hq
      exact absurd hg (Nat.not_le.2 (own j' hj' u' hu' _ (by rw [e4]; exact hq')).2.1)
    · exact ⟨e0.trans e5.symm, e1.trans e3.symm⟩
/-- Lists told: the things stay. -/
theorem Inv.told {vo' vw' : Value} {O' N' : List (Value × List Int)} (h : Inv B U n w W cs ls rs SC SL SR vc vl vr vo vw O N) (k : TellPost B U n w W cs ls rs SC SL SR vc vl vr O N w' vo' vw' O' N') : Inv B U n w' W cs ls rs SC SL SR vc vl vr vo' vw' O' N' := by
  refine ⟨k.ws, k.bk, h.ac, fun j hj => ?_, fun j hj t ht q hq => ?_, h.one⟩
  · have := h.al j hj
    exact ⟨this.places, this.hits, this.misses, this.L.mono fun t u _ _ r => by
      obtain ⟨h1, h2, g, h3, h4⟩ := r
      exact ⟨h1, h2, g, h3, k.nums.is g _ _ h4⟩⟩
  · obtain ⟨h1, h2, h3⟩ := h.own j hj t ht q hq
    refine ⟨h1, Nat.lt_of_lt_of_le h2 k.nums.size, fun p hp => ?_⟩
    rcases k.new p hp with hp | hp
    · exact h3 p hp
    · intro e
      exact absurd (hp.1 q e) (Nat.not_le.2 h2)
/-- One more cache of each kind: all else stays. -/
theorem Inv.made {m bc bl br : Nat} {vc' vl' vr' : Value} (h : Inv B U n w W cs ls rs SC SL SR vc vl vr vo vw O N) (k : MadePost B U n w W cs ls rs SC SL SR vc vl vr vo vw m w' bc bl br vc' vl' vr') :
    Inv B U (n + 1) w' W (at_ cs n bc) (at_ ls n bl) (at_ rs n br) (at_ SC n ⟨m, 0, 0, []⟩) (at_ SL n ⟨m, 0, 0, []⟩) (at_ SR n ⟨m, 0, 0, []⟩) vc' vl' vr' vo vw O N ∧ Below B w w' := by
  have typ : ∀ j, (j = W ∨ vc.ownBlock = some j ∨ vl.ownBlock = some j ∨ vr.ownBlock = some j) → ∃ cur t, w.heap[j]? = some (.cells cur t (0, 0)) ∧ (t = 30 ∨ t = 38 ∨ t = 56 ∨ t = 58) := fun j hj => by
    rcases hj with rfl | hj | hj | hj
    · exact ⟨_, _, h.ws.head, .inl rfl⟩
    · obtain ⟨_, _, cur, hc⟩ := own_type h.ws.rc j hj; exact ⟨_, _, hc, .inr (.inl rfl)⟩
    · obtain ⟨_, _, cur, hc⟩ := own_type h.ws.rl j hj; exact ⟨_, _, hc, .inr (.inr (.inl rfl))⟩
    · obtain ⟨_, _, cur, hc⟩ := own_type h.ws.rr j hj; exact ⟨_, _, hc, .inr (.inr (.inr rfl))⟩
  have keeps : ∀ (g : Nat) (cur : Array Value) (t : TypeId) z, t ≠ 30 → t ≠ 38 → t ≠ 56 → t ≠ 58 → w.heap[g]? = some (.cells cur t z) → w'.heap[g]? = some (.cells cur t z) := fun g cur t z t1 t2 t3 t4 hg => by
    rw [k.kept.block g (Array.getElem?_eq_some_iff.1 hg).1 (fun e => by
      obtain ⟨cur', t', hc, ht⟩ := typ g e
      rw [hc] at hg
      simp at hg
      rw [hg.2.1] at ht
      rcases ht with ht | ht | ht | ht
      · exact t1 ht
      · exact t2 ht
      · exact t3 ht
      · exact t4 ht)]
    exact hg
  have row : ∀ (T : TypeId) (v : Value) (q : Nat) (xs : List Value), T ≠ 30 → T ≠ 38 → T ≠ 56 → T ≠ 58 → w.ownsRow 0 T 1 v q xs → w'.ownsRow 0 T 1 v q xs := fun T v q xs t1 t2 t3 t4 hr => by
    obtain ⟨hl, hr⟩ := hr
    refine ⟨hl, ?_⟩
    rcases hr with hr | ⟨g, cap, cur, e, hb, hg, hc⟩
    · exact .inl hr
    · exact .inr ⟨g, cap, cur, e, hb, keeps g cur T _ t1 t2 t3 t4 hg, hc⟩
  have old : ∀ j, j < n + 1 → ∀ t ∈ (at_ SL n ⟨m, 0, 0, []⟩ j).L, j < n ∧ t ∈ (SL j).L := fun j hj t ht => by
    by_cases e : j = n
    · subst e; rw [at_same] at ht; simp at ht
    · rw [at_other e] at ht; exact ⟨by omega, ht⟩
  refine ⟨⟨k.ws, ⟨row _ _ _ _ (by decide) (by decide) (by decide) (by decide) h.bk.ro, row _ _ _ _ (by decide) (by decide) (by decide) (by decide) h.bk.rw_, h.bk.dv, fun p hp => row _ _ _ _ (by decide) (by decide) (by decide) (by decide) (h.bk.outs p hp), fun p hp => row _ _ _ _ (by decide) (by decide) (by decide) (by decide) (h.bk.copies p hp), h.bk.same, h.bk.apart⟩, all_new h.ac ⟨rfl, rfl, rfl, .nil⟩, all_new (fun j hj => ?_) ⟨rfl, rfl, rfl, .nil⟩, fun j hj t ht q hq => ?_, fun j j' hj hj' t ht u hu q hq hq' => ?_⟩, Kept.below (Below.refl _ _) k.kept h.ws.hB fun j hj => ?_⟩
  · have := h.al j hj
    exact ⟨this.places, this.hits, this.misses, this.L.mono fun t u _ _ r => by
      obtain ⟨h1, h2, g, h3, h4⟩ := r
      exact ⟨h1, h2, g, h3, keeps g _ _ _ (by decide) (by decide) (by decide) (by decide) h4⟩⟩
  · obtain ⟨e, ht⟩ := old j hj t ht
    obtain ⟨h1, h2, h3⟩ := h.own j e t ht q hq
    exact ⟨h1, Nat.lt_of_lt_of_le h2 k.kept.size, h3⟩
  · obtain ⟨e, ht⟩ := old j hj t ht
    obtain ⟨e', hu⟩ := old j' hj' u hu
    exact h.one j j' e e' t ht u hu q hq hq'
  · rcases hj with rfl | hj | hj | hj
    · exact h.ws.lw.1
    · exact h.ws.lw.2 j (.inl hj)
    · exact h.ws.lw.2 j (.inr (.inl hj))
    · exact h.ws.lw.2 j (.inr (.inr (.inl hj)))
end
end Go.Proofs.Yteajgodpdfcioaa
