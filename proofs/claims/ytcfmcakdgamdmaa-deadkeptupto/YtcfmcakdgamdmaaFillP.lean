/- Lists that are filled: which lives come in, whatever their order. -/
import Derived.Test.YtcfmcakdgamdmaaLf
namespace Go.Proofs.Ytcfmcakdgamdmaa

def stepF (s : List Lf × List Lf) (x : Lf) : List Lf × List Lf := (putL s.1 x, if putE s.1 x = 0 then s.2 ++ [x] else s.2)
def fillF (s : List Lf × List Lf) (X : List Lf) : List Lf × List Lf := X.foldl stepF s
def fillL (X : List Lf) : List Lf × List Lf := fillF ([], []) X
theorem fillL_snoc (X : List Lf) (x : Lf) : fillL (X ++ [x]) = stepF (fillL X) x := by simp [fillL, fillF]
theorem snoc_rec {P : List Lf → Prop} (h0 : P []) (hs : ∀ X x, P X → P (X ++ [x])) (X : List Lf) : P X := by
  have h : ∀ Y : List Lf, P Y.reverse := by
    intro Y
    induction Y with
    | nil => exact h0
    | cons y Y ih => rw [List.reverse_cons]; exact hs _ _ ih
  have := h X.reverse
  rw [List.reverse_reverse] at this
  exact this
theorem insL_perm (L : List Lf) (x : Lf) : (insL L x).Perm (L ++ [x]) := by
  unfold insL
  have h1 : (L.take (atL L x) ++ x :: L.drop (atL L x)).Perm (x :: (L.take (atL L x) ++ L.drop (atL L x))) := List.perm_middle
  rw [List.take_append_drop] at h1
  exact h1.trans (List.perm_append_singleton x L).symm
theorem fill_perm (X : List Lf) : (fillL X).1.Perm (fillL X).2 := by
  revert X
  refine snoc_rec ?_ ?_
  · exact List.Perm.refl _
  · intro X x ih
    rw [fillL_snoc]
    unfold stepF
    simp only
    unfold putL
    split
    · exact (insL_perm _ _).trans (ih.append_right _)
    · exact ih
theorem fill_ok (X : List Lf) : OkL (fillL X).1 := by
  revert X
  refine snoc_rec ?_ ?_
  · exact OkL.nil
  · intro X x ih
    rw [fillL_snoc]
    exact ih.put x
theorem fill_length (X : List Lf) : (fillL X).2.length ≤ X.length := by
  revert X
  refine snoc_rec ?_ ?_
  · exact Nat.le_refl _
  · intro X x ih
    rw [fillL_snoc]
    unfold stepF
    simp only
    split
    · simp; omega
    · simp; omega
theorem fill_lengths (X : List Lf) : (fillL X).1.length = (fillL X).2.length := (fill_perm X).length_eq
/-- No two meet. -/
def apartL (a x : Lf) : Prop := ¬ meets a x
theorem apart_symm {a x : Lf} (h : apartL a x) : apartL x a := by unfold apartL meets at *; omega
theorem ahead_apart {a x : Lf} (h : ahead a x) : apartL a x := by unfold ahead at h; unfold apartL meets; omega
theorem ok_apart {L : List Lf} (h : OkL L) : L.Pairwise apartL := h.rise.imp (fun h => ahead_apart h)
theorem fill_all (J : List Lf) : (∀ x ∈ J, spanL x) → J.Pairwise apartL → (fillL J).2 = J := by
  revert J
  refine snoc_rec ?_ ?_
  · intro _ _; rfl
  · intro J x ih hs hp
    rw [List.pairwise_append] at hp
    obtain ⟨h1, _, h3⟩ := hp
    have hj := ih (fun y hy => hs y (List.mem_append_left _ hy)) h1
    rw [fillL_snoc]
    unfold stepF
    simp only
    have h0 : putE (fillL J).1 x = 0 := by
      unfold putE
      rw [if_neg (by simpa using hs x (by simp)), if_neg]
      rintro ⟨a, ha, hm⟩
      have hm2 : a ∈ J := by
        have := (fill_perm J).mem_iff.1 ha
        rw [hj] at this
        exact this
      exact h3 a hm2 x (by simp) hm
    rw [if_pos h0, hj]
theorem ok_lt {L : List Lf} (h : OkL L) : L.Pairwise ltL := by
  have h1 := h.span
  have h2 := h.rise
  clear h
  induction L with
  | nil => exact List.Pairwise.nil
  | cons a L ih =>
    rw [List.pairwise_cons] at h2 ⊢
    exact ⟨fun x hx => ahead_lt (h1 a (by simp)) (h2.1 x hx), ih (fun x hx => h1 x (List.mem_cons_of_mem _ hx)) h2.2⟩
theorem ok_uniq {L M : List Lf} (h : OkL L) (k : OkL M) (hp : L.Perm M) : L = M := by
  refine hp.eq_of_pairwise (le := ltL) ?_ (ok_lt h) (ok_lt k)
  intro a b _ _ h1 h2
  unfold ltL at h1 h2
  omega
theorem ok_nodup {L : List Lf} (h : OkL L) : L.Nodup := (ok_lt h).imp (fun {a b} hab e => by subst e; unfold ltL at hab; omega)
/-- Put in the other way round. -/
theorem fill_turned (X : List Lf) : (fillL (fillL X).2.reverse).2 = (fillL X).2.reverse ∧ (fillL (fillL X).2.reverse).1 = (fillL X).1 := by
  have hp := fill_perm X
  have ho := fill_ok X
  have h2 : (fillL (fillL X).2.reverse).2 = (fillL X).2.reverse := by
    refine fill_all _ (fun x hx => ho.span x (hp.mem_iff.2 (List.mem_reverse.1 hx))) ?_
    have h1 := ((hp.pairwise_iff (R := apartL) (fun h => apart_symm h)).1 (ok_apart ho))
    exact (((List.reverse_perm _).pairwise_iff (R := apartL) (fun h => apart_symm h)).2 h1)
  refine ⟨h2, ok_uniq (fill_ok _) ho ?_⟩
  have h3 := fill_perm (fillL X).2.reverse
  rw [h2] at h3
  exact h3.trans ((List.reverse_perm _).trans hp.symm)
/-- How often a life is there. -/
theorem count_nodup {L : List Lf} {x : Lf} (hn : L.Nodup) (hx : x ∈ L) : L.countP (fun y => decide (y = x)) = 1 := by
  induction L with
  | nil => simp at hx
  | cons a L ih =>
    rw [List.nodup_cons] at hn
    rw [List.countP_cons]
    by_cases e : a = x
    · subst e
      have h0 : L.countP (fun y => decide (y = a)) = 0 := by
        rw [List.countP_eq_zero]
        intro y hy
        simp
        intro e
        subst e
        exact hn.1 hy
      rw [h0]
      simp
    · rw [ih hn.2 (by rcases List.mem_cons.1 hx with h | h; exact absurd h.symm e; exact h)]
      simp [e]
theorem count_one (X : List Lf) {x : Lf} (hx : x ∈ (fillL X).2) : (fillL X).1.countP (fun y => decide (y = x)) = 1 :=
  count_nodup (ok_nodup (fill_ok X)) ((fill_perm X).mem_iff.2 hx)
end Go.Proofs.Ytcfmcakdgamdmaa
