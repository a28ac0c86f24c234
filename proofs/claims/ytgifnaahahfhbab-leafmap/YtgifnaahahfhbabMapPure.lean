/- P5.3, on lists. -/
import Derived.Test.YtgifnaahahfhbabRisen
import Derived.Test.YtgifnaahahfhbabFitsPure
namespace Go.Proofs.Ytgifnaahahfhbab

theorem valE_some {l : List En} {k : Key} {u : Key} (h : valE l k = some u) : ∃ x ∈ l, x.k = k ∧ x.v = u := by
  unfold valE at h
  obtain ⟨x, hx, rfl⟩ := Option.map_eq_some_iff.1 h
  exact ⟨x, List.mem_of_find?_eq_some hx, by simpa using List.find?_some hx, rfl⟩
theorem RisenE.same {l : List En} (h : RisenE l) {x y : En} (hx : x ∈ l) (hy : y ∈ l) (he : x.k = y.k) : x = y := by
  obtain ⟨i, hi⟩ := List.getElem?_of_mem hx
  obtain ⟨j, hj⟩ := List.getElem?_of_mem hy
  rcases Nat.lt_trichotomy i j with h1 | h1 | h1
  · have := h i j x y h1 hi hj; grind
  · subst h1; rw [hi] at hj; cases hj; rfl
  · have := h j i y x h1 hj hi; grind
/-- Of entries that rise a key's value is that of its entry. -/
theorem valE_mem {l : List En} (h : RisenE l) {x : En} (hx : x ∈ l) : valE l x.k = some x.v := by
  cases hv : valE l x.k with
  | none =>
    unfold valE at hv
    rw [Option.map_eq_none_iff, List.find?_eq_none] at hv
    have := hv x hx
    simp at this
  | some u =>
    obtain ⟨y, hy, h1, h2⟩ := valE_some hv
    rw [h.same hx hy h1.symm, h2]
theorem mem_put {l : List En} {e : En} {p : Nat} {b : Bool} (h : RisenE l) (hf : FindAt l e.k p b) (x : En) : x ∈ putE l e p b ↔ x = e ∨ (x ∈ l ∧ x.k ≠ e.k) := by
  unfold putE
  simp only [List.mem_append, List.mem_singleton]
  constructor
  · rintro ((hx | rfl) | hx)
    · obtain ⟨i, hi⟩ := List.getElem?_of_mem hx
      rw [List.getElem?_take] at hi
      split at hi
      · rename_i hip
        have := hf.lt i x hip hi
        exact .inr ⟨List.mem_of_mem_take hx, by grind⟩
      · cases hi
    · exact .inl rfl
    · obtain ⟨i, hi⟩ := List.getElem?_of_mem hx
      rw [List.getElem?_drop] at hi
      refine .inr ⟨List.mem_of_mem_drop hx, fun he => ?_⟩
      cases b with
      | true =>
        simp only [if_true] at hi
        obtain ⟨y, hy, h1⟩ := hf.is.1 rfl
        have := h p (p + 1 + i) y x (by omega) hy hi
        grind
      | false =>
        simp only [Bool.false_eq_true, if_false] at hi
        rcases Nat.eq_zero_or_pos i with rfl | hi0
        · have := hf.is.2 ⟨x, hi, he⟩
          cases this
        · obtain ⟨y, hy⟩ : ∃ y, l[p]? = some y := ⟨_, List.getElem?_eq_getElem (by have := (List.getElem?_eq_some_iff.1 hi).1; omega)⟩
          have h1 := h p (p + i) y x (by omega) hy hi
          have h2 := hf.ge p y (Nat.le_refl _) hy
          grind
  · rintro (rfl | ⟨hx, hne⟩)
    · exact .inl (.inr rfl)
    · obtain ⟨i, hi⟩ := List.getElem?_of_mem hx
      by_cases hip : i < p
      · refine .inl (.inl ?_)
        exact List.mem_of_getElem? (i := i) (by rw [List.getElem?_take, if_pos hip]; exact hi)
      · refine .inr ?_
        cases b with
        | true =>
          simp only [if_true]
          obtain ⟨y, hy, h1⟩ := hf.is.1 rfl
          have : i ≠ p := fun e => by subst e; rw [hi] at hy; cases hy; exact hne h1
          exact List.mem_of_getElem? (i := i - (p + 1)) (by rw [List.getElem?_drop, show p + 1 + (i - (p + 1)) = i by omega]; exact hi)
        | false =>
          simp only [Bool.false_eq_true, if_false]
          exact List.mem_of_getElem? (i := i - p) (by rw [List.getElem?_drop, show p + (i - p) = i by omega]; exact hi)
/-- Set is a map's. -/
theorem val_put {l : List En} {e : En} {p : Nat} {b : Bool} (h : RisenE l) (hf : FindAt l e.k p b) (k : Key) : valE (putE l e p b) k = if k = e.k then some e.v else valE l k := by
  have hr := put_risen h hf
  split
  · rename_i hk
    subst hk
    exact valE_mem hr ((mem_put h hf e).2 (.inl rfl))
  · rename_i hk
    cases hv : valE l k with
    | some u =>
      obtain ⟨x, hx, rfl, rfl⟩ := valE_some hv
      exact valE_mem hr ((mem_put h hf x).2 (.inr ⟨hx, hk⟩))
    | none =>
      cases hv2 : valE (putE l e p b) k with
      | none => rfl
      | some u =>
        obtain ⟨x, hx, rfl, rfl⟩ := valE_some hv2
        rcases (mem_put h hf x).1 hx with rfl | ⟨h1, _⟩
        · exact absurd rfl hk
        · rw [valE_mem h h1] at hv; cases hv
/-- Cut is a map's. -/
theorem val_cut (r : Rg) (l : List En) (k : Key) : valE (cutE r l) k = if r.has k then none else valE l k := by
  unfold valE cutE
  induction l with
  | nil => simp
  | cons x t ih =>
    rw [List.filter_cons]
    by_cases hx : r.has x.k = true
    · rw [if_neg (by simp [hx]), ih, List.find?_cons]
      by_cases hk : x.k = k
      · subst hk; simp [hx]
      · simp [hk]
    · rw [if_pos (by simpa using hx), List.find?_cons, List.find?_cons]
      by_cases hk : x.k = k
      · subst hk; simp [hx]
      · simp only [hk, decide_false]; exact ih
/-- Find is a map's. -/
theorem val_find {l : List En} {k : Key} {p : Nat} {b : Bool} (h : RisenE l) (hf : FindAt l k p b) : (valE l k).isSome = b ∧ (b = true → ∃ x, l[p]? = some x ∧ valE l k = some x.v) := by
  cases b with
  | true =>
    obtain ⟨x, hx, rfl⟩ := hf.is.1 rfl
    have := valE_mem h (List.mem_of_getElem? hx)
    exact ⟨by rw [this]; rfl, fun _ => ⟨x, hx, this⟩⟩
  | false =>
    refine ⟨?_, fun h => by cases h⟩
    rw [valE_none (fun x hx he => ?_)]
    · rfl
    · obtain ⟨i, hi⟩ := List.getElem?_of_mem hx
      rcases Nat.lt_trichotomy i p with h1 | rfl | h1
      · have := hf.lt i x h1 hi; grind
      · have := hf.is.2 ⟨x, hi, he⟩; cases this
      · obtain ⟨y, hy⟩ : ∃ y, l[p]? = some y := ⟨_, List.getElem?_eq_getElem (by have := (List.getElem?_eq_some_iff.1 hi).1; omega)⟩
        have h2 := h p i y x h1 hy hi
        have h3 := hf.ge p y (Nat.le_refl _) hy
        grind
theorem risE_risen {acc : List En} {e : En} (h : RisenE acc) : RisenE (risE acc e) := by
  unfold risE
  split
  · rename_i hn
    rw [List.getLast?_eq_none_iff] at hn
    subst hn
    intro i j x y hij hx hy
    have h1 := (List.getElem?_eq_some_iff.1 hx).1
    have h2 := (List.getElem?_eq_some_iff.1 hy).1
    simp at h1 h2
    omega
  · rename_i x hx
    split
    · rename_i hlt
      rw [risen_iff] at h ⊢
      rw [List.pairwise_append]
      refine ⟨h, by simp, fun a ha b hb => ?_⟩
      simp at hb
      subst hb
      obtain ⟨ys, hys⟩ := List.getLast?_eq_some_iff.1 hx
      subst hys
      rw [List.pairwise_append] at h
      rcases List.mem_append.1 ha with h1 | h1
      · have := h.2.2 a h1 x (by simp); grind
      · simp at h1; rw [h1]; exact hlt
    · exact h
theorem risenE_risen (l : List En) : RisenE (risenE l) := by
  unfold risenE
  suffices ∀ acc, RisenE acc → RisenE (l.foldl risE acc) from this [] (fun i j x y _ hx => by simp at hx)
  induction l with
  | nil => exact fun acc h => h
  | cons e t ih => exact fun acc h => ih _ (risE_risen h)
theorem risenE_self {l : List En} (h : RisenE l) : risenE l = l := by
  unfold risenE
  suffices ∀ acc, List.Pairwise (fun x y : En => x.k < y.k) (acc ++ l) → l.foldl risE acc = acc ++ l from this [] (risen_iff.1 h)
  clear h
  induction l with
  | nil => intro acc _; simp
  | cons e t ih =>
    intro acc hp
    have h1 : risE acc e = acc ++ [e] := by
      unfold risE
      split
      · rfl
      · rename_i x hx
        rw [if_pos]
        obtain ⟨ys, rfl⟩ := List.getLast?_eq_some_iff.1 hx
        rw [List.pairwise_append] at hp
        exact hp.2.2 x (by simp) e (by simp)
    rw [List.foldl_cons, h1, ih (acc ++ [e]) (by rw [List.append_assoc]; exact hp), List.append_assoc]
    rfl
end Go.Proofs.Ytgifnaahahfhbab
