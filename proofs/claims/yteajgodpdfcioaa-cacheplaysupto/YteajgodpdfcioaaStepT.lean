/- step: its owner writes over what was put in last. -/
import Derived.Test.YteajgodpdfcioaaStepB
namespace Go.Proofs.Yteajgodpdfcioaa
open Go.RowKit Go.Maps

section
variable {X : Type} {s : Ca X} {m : Int}
theorem find_get {t : Th X} (h : findT m s.L = some t) : findT m (s.get m).L = some t := by
  unfold Ca.get
  rw [h]
  have hn := (find_some h).2
  have h0 : findT m (outT m s.L) = none := by
    unfold findT
    rw [List.find?_eq_none]
    intro u hu
    simpa [outT] using (List.mem_filter.1 hu).2
  unfold findT at h0 ⊢
  rw [List.find?_append, h0]
  simp [hn]
end
/-- While a thing of a list is turned: all but its likeness. -/
structure Mid (B U n : Nat) (w : World) (W : Nat) (cs ls rs : Nat → Nat) (SC SL : Nat → Ca Value) (SR : Nat → Ca Int) (vc vl vr vo vw : Value) (O N : List (Value × List Int)) (i : Nat) (m x : Int) (g : Nat) : Prop where
  ws : Ws B U n w W cs ls rs SC SL SR vc vl vr vo vw
  bk : Bk w vo vw O N
  ac : ∀ i, i < n → Alike ri (SC i) (SR i)
  al : ∀ j, j < n → j ≠ i → Alike (lk w) (SL j) (SR j)
  but : Alike (But (lk w) m) (SL i) (SR i)
  own : ∀ i, i < n → ∀ t ∈ (SL i).L, ∀ k, t.x.ownBlock = some k → B ≤ k ∧ k < w.heap.size ∧ ∀ p ∈ O ++ N, p.1.ownBlock ≠ some k
  one : ∀ i j, i < n → j < n → ∀ t ∈ (SL i).L, ∀ u ∈ (SL j).L, ∀ k, t.x.ownBlock = some k → u.x.ownBlock = some k → i = j ∧ t.n = u.n
  has : ∃ t, findT m (SL i).L = some t ∧ t.x = .slice (some ⟨g, 0, none⟩) 1 1
  cell : w.heap[g]? = some (.cells #[.int .i64 x] 3 (0, 0))
section
variable {B U U' n : Nat} {w w' : World} {W i : Nat} {cs ls rs : Nat → Nat} {SC SL : Nat → Ca Value} {SR : Nat → Ca Int} {vc vl vr vo vw : Value} {O N : List (Value × List Int)} {m x y : Int} {g : Nat}
theorem Inv.turned (h : Inv B U n w W cs ls rs SC SL SR vc vl vr vo vw O N) (hi : i < n) {t : Th Value} (ht : findT m (SL i).L = some t) (hx : t.x = .slice (some ⟨g, 0, none⟩) 1 1) (hg : w.heap[g]? = some (.cells #[.int .i64 y] 3 (0, 0))) :
    Mid B U n (w.setCell ⟨g, 0, none⟩ (.int .i64 x)) W cs ls rs SC SL SR vc vl vr vo vw O N i m x g ∧ Below B w (w.setCell ⟨g, 0, none⟩ (.int .i64 x)) := by
  have hk : Kept (fun k => k = g) w (w.setCell ⟨g, 0, none⟩ (.int .i64 x)) := setCell_kept _
  obtain ⟨ho1, ho2, ho3⟩ := h.own i hi t (find_some ht).1 g (by rw [hx]; rfl)
  have row : ∀ (T : TypeId) (v : Value) (q : Nat) (xs : List Value), T ≠ 3 → w.ownsRow 0 T 1 v q xs → (w.setCell ⟨g, 0, none⟩ (.int .i64 x)).ownsRow 0 T 1 v q xs := fun T v q xs hT hr => own_kept hr hk (fun j hj e => by
    obtain ⟨_, _, cur, hc⟩ := own_type hr j hj
    rw [e, hg] at hc
    simp at hc
    exact hT hc.2.symm)
  have hWg : W ≠ g := fun e => by
    have h1 := h.ws.head
    rw [e, hg] at h1
    simp at h1
  have cell : (w.setCell ⟨g, 0, none⟩ (.int .i64 x)).heap[g]? = some (.cells #[.int .i64 x] 3 (0, 0)) := (heap_set_same _ hg).trans (by simp)
  have like : ∀ t' u, t'.x.ownBlock ≠ some g → lk w t' u → lk (w.setCell ⟨g, 0, none⟩ (.int .i64 x)) t' u := fun t' u hne r => by
    obtain ⟨h1, h2, g', h3, h4⟩ := r
    refine ⟨h1, h2, g', h3, ?_⟩
    rw [hk.block g' (Array.getElem?_eq_some_iff.1 h4).1 (fun e => hne (by rw [h3, e]; rfl))]
    exact h4
  have ints : ∀ p ∈ O ++ N, NewI 0 w p.1 p.2 → NewI 0 (w.setCell ⟨g, 0, none⟩ (.int .i64 x)) p.1 p.2 := fun p hp hr => own_kept hr hk (fun j hj e => ho3 p hp (by rw [hj, e]))
  refine ⟨⟨⟨(hk.block W (Array.getElem?_eq_some_iff.1 h.ws.head).1 hWg).trans h.ws.head, row _ _ _ _ (by decide) h.ws.rc, row _ _ _ _ (by decide) h.ws.rl, row _ _ _ _ (by decide) h.ws.rr, h.ws.wos.far hk (fun k e _ => ⟨#[.int .i64 y], 3, (0, 0), by rw [e]; exact hg, by decide, by decide, by decide, by decide, by decide, by decide⟩), h.ws.few, Nat.le_trans h.ws.hB hk.size, h.ws.lw⟩, ⟨row _ _ _ _ (by decide) h.bk.ro, row _ _ _ _ (by decide) h.bk.rw_, h.bk.dv, fun p hp => ints p (List.mem_append.2 (.inl hp)) (h.bk.outs p hp), fun p hp => ints p (List.mem_append.2 (.inr hp)) (h.bk.copies p hp), h.bk.same, h.bk.apart⟩, h.ac, fun j hj hne => ?_, ?_, fun j hj t' ht' k hk' => ?_, h.one, ⟨t, ht, hx⟩, cell⟩, Kept.below (Below.refl _ _) hk h.ws.hB (fun k e => by rw [e]; exact ho1)⟩
  · have a := h.al j hj
    exact ⟨a.places, a.hits, a.misses, a.L.mono fun t' u ht' _ r => like t' u (fun e => hne (h.one j i hj hi t' ht' t (find_some ht).1 g e (by rw [hx]; rfl)).1) r⟩
  · have a := h.al i hi
    exact ⟨a.places, a.hits, a.misses, a.L.mono fun t' u ht' _ r => ⟨r.1, r.2.1, fun hne => like t' u (fun e => hne ((h.one i i hi hi t' ht' t (find_some ht).1 g e (by rw [hx]; rfl)).2.trans (find_some ht).2)) r⟩⟩
  · obtain ⟨h1, h2, h3⟩ := h.own j hj t' ht' k hk'
    exact ⟨h1, Nat.lt_of_lt_of_le h2 hk.size, h3⟩
theorem But.stay {t : Th Value} {u : Th Int} (k : Stay w w') (h : But (lk w) m t u) : But (lk w') m t u := ⟨h.1, h.2.1, fun e => lk_stay k (h.2.2 e)⟩
/-- Got once more. -/
theorem Mid.less (h : Mid B U n w W cs ls rs SC SL SR vc vl vr vo vw O N i m x g) (hi : i < n) (k : After B U' n w W cs ls rs (at_ SC i ((SC i).get m)) (at_ SL i ((SL i).get m)) (at_ SR i ((SR i).get m)) vc vl vr vo vw w') :
    Mid B U' n w' W cs ls rs (at_ SC i ((SC i).get m)) (at_ SL i ((SL i).get m)) (at_ SR i ((SR i).get m)) vc vl vr vo vw O N i m x g := by
  have from_ : ∀ j, j < n → ∀ t ∈ (at_ SL i ((SL i).get m) j).L, ∃ u ∈ (SL j).L, u.n = t.n ∧ u.x = t.x := fun j _ t ht => by
    by_cases e : j = i
    · subst e; rw [at_same] at ht; exact get_from t ht
    · rw [at_other e] at ht; exact ⟨t, ht, rfl, rfl⟩
  refine ⟨k.1, h.bk.stay k.2.stay, fun j hj => ?_, fun j hj e => ?_, ?_, fun j hj t ht g hg => ?_, fun j j' hj hj' t ht u hu g hg hg' => ?_, ?_, k.2.is g _ _ _ (by decide) (by decide) (by decide) (by decide) (by decide) (by decide) h.cell⟩
  · by_cases e : j = i
    · subst e; rw [at_same, at_same]; exact (h.ac j hj).get ri_fair m
    · rw [at_other e, at_other e]; exact h.ac j hj
  · rw [at_other e, at_other e]; exact (h.al j hj e).stay k.2.stay
  · rw [at_same, at_same]
    have a := h.but.get (But.fair (lk_fair w) m) m
    exact ⟨a.places, a.hits, a.misses, a.L.mono fun _ _ _ _ r => But.stay k.2.stay r⟩
  · obtain ⟨u, hu, _, e⟩ := from_ j hj t ht
    obtain ⟨h1, h2, h3⟩ := h.own j hj u hu g (by rw [e]; exact hg)
    exact ⟨h1, Nat.lt_of_lt_of_le h2 k.2.size, h3⟩
  · obtain ⟨t', ht', e1, e2⟩ := from_ j hj t ht
    obtain ⟨u', hu', e3, e4⟩ := from_ j' hj' u hu
    rw [← e1, ← e3]
    exact h.one j j' hj hj' t' ht' u' hu' g (by rw [e2]; exact hg) (by rw [e4]; exact hg')
  · obtain ⟨t, ht, hx⟩ := h.has
    rw [at_same]
    exact ⟨t, find_get ht, hx⟩
theorem has_of {X : Type} {s : Ca X} {t : Th X} (h : findT m s.L = some t) : s.has m = true := by unfold Ca.has; rw [h]; rfl
theorem has_ex {X : Type} {s : Ca X} (h : s.has m = true) : ∃ t, findT m s.L = some t := by
  unfold Ca.has at h
  cases e : findT m s.L with
  | none => rw [e] at h; simp at h
  | some t => exact ⟨t, rfl⟩
theorem tellsL_of {s : Ca Value} {t : Th Value} (h : findT m s.L = some t) : s.tellsL m = t.x := by unfold Ca.tellsL; rw [h]
/-- Put in again. -/
theorem Mid.put (h : Mid B U n w W cs ls rs SC SL SR vc vl vr vo vw O N i m x g) (hi : i < n) {g' : Nat} (hg : w.heap.size ≤ g') (hc : w'.heap[g']? = some (.cells #[.int .i64 x] 3 (0, 0))) (k : After B U' n w W cs ls rs (at_ SC i ((SC i).put m (.int .i64 x))) (at_ SL i ((SL i).put m (.slice (some ⟨g', 0, none⟩) 1 1))) (at_ SR i ((SR i).put m x)) vc vl vr vo vw w') :
    Inv B U' n w' W cs ls rs (at_ SC i ((SC i).put m (.int .i64 x))) (at_ SL i ((SL i).put m (.slice (some ⟨g', 0, none⟩) 1 1))) (at_ SR i ((SR i).put m x)) vc vl vr vo vw O N := by
  obtain ⟨t, ht, _⟩ := h.has
  have b : Alike (But (lk w') m) (SL i) (SR i) := ⟨h.but.places, h.but.hits, h.but.misses, h.but.L.mono fun _ _ _ _ r => But.stay k.2.stay r⟩
  exact Inv.put h.ws.hB h.bk (fun j hj _ => h.ac j hj) h.al h.own h.one k hg hc ((h.ac i hi).put ri_fair m fun k => ⟨rfl, rfl, rfl⟩) (b.put_but (lk_fair w') (has_of ht) fun k => ⟨rfl, rfl, g', rfl, hc⟩)
end
theorem op_cells {w : World} {b : Nat} {k o m x : Int} (h : w.heap[b]? = some (.cells #[.int .i64 k, .int .i64 o, .int .i64 m, .int .i64 x] 33 (0, 0))) : w.cell? ⟨b, 2, none⟩ = some (.int .i64 m) ∧ w.cell? ⟨b, 3, none⟩ = some (.int .i64 x) := ⟨by rw [row_cell h]; rfl, by rw [row_cell h]; rfl⟩
theorem op_moves {B : Nat} {w w' : World} {b : Nat} {cur : Array Value} (h : Moves B w w') (hb : w.heap[b]? = some (.cells cur 33 (0, 0))) : w'.heap[b]? = some (.cells cur 33 (0, 0)) := h.is b _ _ _ (by decide) (by decide) (by decide) (by decide) (by decide) (by decide) hb
end Go.Proofs.Yteajgodpdfcioaa
