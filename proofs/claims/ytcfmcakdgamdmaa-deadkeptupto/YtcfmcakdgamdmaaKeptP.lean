/- What P10.2, P10.3, P10.4 say, on lists. -/
import Derived.Test.YtcfmcakdgamdmaaFillP
namespace Go.Proofs.Ytcfmcakdgamdmaa

theorem onceF_mem {n : Int} {l : List Int} {o : Option Int} : n ∈ l → o = some n ∨ n ∈ onceF o l := by
  induction l generalizing o with
  | nil => intro h; simp at h
  | cons a r ih =>
    intro h
    unfold onceF
    by_cases ho : o = some a
    · rw [if_pos ho]
      rcases List.mem_cons.1 h with rfl | h
      · exact .inl ho
      · exact ih h
    · rw [if_neg ho]
      rcases List.mem_cons.1 h with rfl | h
      · exact .inr (List.mem_cons_self ..)
      · rcases ih (o := some a) h with h | h
        · cases h; exact .inr (List.mem_cons_self ..)
        · exact .inr (List.mem_cons_of_mem _ h)
theorem onceF_sub {n : Int} {l : List Int} {o : Option Int} : n ∈ onceF o l → n ∈ l := by
  induction l generalizing o with
  | nil => intro h; exact h
  | cons a r ih =>
    intro h
    unfold onceF at h
    by_cases ho : o = some a
    · rw [if_pos ho] at h
      exact List.mem_cons_of_mem _ (ih h)
    · rw [if_neg ho] at h
      rcases List.mem_cons.1 h with rfl | h
      · exact List.mem_cons_self ..
      · exact List.mem_cons_of_mem _ (ih h)
theorem once_mem {n : Int} {l : List Int} : n ∈ onceL l ↔ n ∈ l := ⟨onceF_sub, fun h => by
  rcases onceF_mem (o := none) h with h | h
  · cases h
  · exact h⟩
theorem onceF_length (o : Option Int) (l : List Int) : (onceF o l).length ≤ l.length := by
  induction l generalizing o with
  | nil => exact Nat.le_refl _
  | cons a r ih =>
    unfold onceF
    split
    · exact Nat.le_trans (ih _) (Nat.le_succ _)
    · exact Nat.succ_le_succ (ih _)
theorem onceF_rise {l : List Int} {o : Option Int} (h : l.Pairwise (· ≤ ·)) (ho : ∀ m, o = some m → ∀ n ∈ l, m ≤ n) : (onceF o l).Pairwise (· < ·) ∧ ∀ m, o = some m → ∀ n ∈ onceF o l, m < n := by
  induction l generalizing o with
  | nil => exact ⟨List.Pairwise.nil, fun m _ n hn => by simp [onceF] at hn⟩
  | cons a r ih =>
    obtain ⟨h1, h2⟩ := List.pairwise_cons.1 h
    unfold onceF
    by_cases e : o = some a
    · rw [if_pos e]
      subst e
      exact ih h2 (fun m hm n hn => by cases hm; exact h1 n hn)
    · rw [if_neg e]
      obtain ⟨h3, h4⟩ := ih (o := some a) h2 (fun m hm n hn => by cases hm; exact h1 n hn)
      refine ⟨List.pairwise_cons.2 ⟨fun n hn => h4 a rfl n hn, h3⟩, fun m hm n hn => ?_⟩
      have hma : m ≤ a := ho m hm a (List.mem_cons_self ..)
      have hne : m ≠ a := fun x => e (by rw [hm, x])
      rcases List.mem_cons.1 hn with rfl | hn
      · omega
      · have := h4 a rfl n hn
        omega
theorem ok_pages {L : List Lf} (h : OkL L) : (L.map Lf.p).Pairwise (· ≤ ·) := by
  rw [List.pairwise_map]
  exact h.rise.imp (fun {a b} hab => by unfold ahead at hab; omega)
theorem gone_rise {L : List Lf} (h : OkL L) (S : List Int) : (goneL L S).Pairwise (· < ·) := (onceF_rise (ok_pages (h.filter _)) (fun _ hm => by cases hm)).1
theorem gone_mem {L : List Lf} {S : List Int} {n : Int} : n ∈ goneL L S ↔ ∃ x ∈ L, anyL S x = false ∧ x.p = n := by
  unfold goneL
  rw [once_mem, List.mem_map]
  constructor
  · rintro ⟨x, hx, rfl⟩
    obtain ⟨h1, h2⟩ := List.mem_filter.1 hx
    exact ⟨x, h1, by simpa using h2, rfl⟩
  · rintro ⟨x, h1, h2, rfl⟩
    exact ⟨x, List.mem_filter.2 ⟨h1, by simpa using h2⟩, rfl⟩
theorem held_mem {L : List Lf} {g : Int} {x : Lf} (h : x ∈ L) (hn : needsL g x = true) : x.p ∈ heldL L g := List.mem_map.2 ⟨x, List.mem_filter.2 ⟨h, hn⟩, rfl⟩
theorem held_length {L I : List Lf} (hp : L.Perm I) (g : Int) : (heldL L g).length = I.countP (needsL g) := by
  unfold heldL
  rw [List.length_map, ← List.countP_eq_length_filter, hp.countP_eq]
theorem gone_fewer {L : List Lf} {S : List Int} {n : Int} (f : Nat) (h : n ∈ goneL L S) : n ∈ goneL L (S.take f) := by
  obtain ⟨x, h1, h2, h3⟩ := gone_mem.1 h
  refine gone_mem.2 ⟨x, h1, ?_, h3⟩
  unfold anyL at *
  rw [List.any_eq_false] at *
  exact fun s hs => h2 s (List.take_subset _ _ hs)
theorem any_of {S : List Int} {s : Int} {x : Lf} (hs : s ∈ S) (h : needsL s x = true) : anyL S x = true := List.any_eq_true.2 ⟨s, hs, h⟩
theorem held_left {L : List Lf} {S : List Int} {s : Int} (hs : s ∈ S) : heldL (leftL L S) s = heldL L s := by
  unfold heldL leftL
  rw [List.filter_filter]
  congr 1
  apply List.filter_congr
  intro x _
  cases h : needsL s x
  · rfl
  · rw [any_of hs h]; rfl
theorem left_any {L : List Lf} {S : List Int} {x : Lf} (h : x ∈ leftL L S) : anyL S x = true := (List.mem_filter.1 h).2
theorem left_length {L I : List Lf} (hp : L.Perm I) (S : List Int) : (leftL L S).length = I.countP (anyL S) := by
  unfold leftL
  rw [← List.countP_eq_length_filter, hp.countP_eq]
theorem left_left (L : List Lf) (S : List Int) : leftL (leftL L S) S = leftL L S := by
  unfold leftL
  rw [List.filter_filter]
  simp
theorem gone_left (L : List Lf) (S : List Int) : goneL (leftL L S) S = [] := by
  apply List.eq_nil_iff_forall_not_mem.2
  intro n hn
  obtain ⟨x, h1, h2, _⟩ := gone_mem.1 hn
  rw [left_any h1] at h2
  cases h2
theorem left_none (L : List Lf) : leftL L [] = [] := by
  unfold leftL anyL
  simp
theorem gone_length (L : List Lf) (S : List Int) : (goneL L S).length ≤ L.length := by
  unfold goneL onceL
  refine Nat.le_trans (onceF_length _ _) ?_
  rw [List.length_map]
  exact List.length_filter_le _ _
end Go.Proofs.Ytcfmcakdgamdmaa
