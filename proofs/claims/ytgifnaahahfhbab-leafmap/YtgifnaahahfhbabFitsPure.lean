/- Leaves with one entry more, and with fewer. -/
import Derived.Test.YtgifnaahahfhbabSplit
import Derived.Test.YtgifnaahahfhbabSet
namespace Go.Proofs.Ytgifnaahahfhbab

/-- An entry may be. -/
def mayE (s : Nat) (e : En) : Prop := e.k.length ≠ 0 ∧ e.k.length ≤ s / 16 ∧ e.v.length ≤ s / 4
theorem nil_lt {k : Key} (h : k.length ≠ 0) : ([] : Key) < k := by
  cases k with
  | nil => simp at h
  | cons x r => simp
theorem faultAt_zero {s : Nat} {p : Key} {e : En} : faultAt s p e = 0 ↔ mayE s e ∧ p < e.k := by
  unfold faultAt mayE
  split
  · rename_i h; constructor
    · intro h'; cases h'
    · rintro ⟨⟨h1, h2, _⟩, _⟩; omega
  · rename_i h
    split
    · rename_i h2; constructor
      · intro h'; cases h'
      · rintro ⟨⟨_, _, h3⟩, _⟩; omega
    · rename_i h2
      split
      · rename_i h3; exact ⟨fun _ => ⟨by omega, h3⟩, fun _ => rfl⟩
      · rename_i h3; exact ⟨fun h' => (by cases h'), fun h' => absurd h'.2 h3⟩
/-- Nothing is wrong: each may be, the first one is above p, and the keys rise. -/
theorem faultF_zero {s : Nat} {p : Key} {l : List En} : faultF s p l = 0 ↔ (∀ e ∈ l, mayE s e ∧ p < e.k) ∧ RisenE l := by
  induction l generalizing p with
  | nil => exact ⟨fun _ => ⟨fun e he => by simp at he, fun i j x y _ hx => by simp at hx⟩, fun _ => rfl⟩
  | cons x r ih =>
    simp only [faultF]
    constructor
    · intro h
      split at h
      · rename_i hx
        obtain ⟨hm, hp⟩ := faultAt_zero.1 hx
        obtain ⟨h1, h2⟩ := ih.1 h
        refine ⟨fun e he => ?_, fun i j a b hij ha hb => ?_⟩
        · rcases List.mem_cons.1 he with rfl | he
          · exact ⟨hm, hp⟩
          · exact ⟨(h1 e he).1, List.lt_trans hp (h1 e he).2⟩
        · cases j with
          | zero => omega
          | succ j =>
            have hb' : r[j]? = some b := by simpa using hb
            cases i with
            | zero => simp at ha; subst ha; exact (h1 b (List.mem_of_getElem? hb')).2
            | succ i => exact h2 i j a b (by omega) (by simpa using ha) hb'
      · rename_i hx; exact absurd h hx
    · rintro ⟨h1, h2⟩
      obtain ⟨hm, hp⟩ := h1 x (List.mem_cons_self ..)
      rw [if_pos (faultAt_zero.2 ⟨hm, hp⟩)]
      refine ih.2 ⟨fun e he => ⟨(h1 e (List.mem_cons_of_mem _ he)).1, ?_⟩, fun i j a b hij ha hb => h2 (i + 1) (j + 1) a b (by omega) (by simpa using ha) (by simpa using hb)⟩
      obtain ⟨i, hi⟩ := List.getElem?_of_mem he
      exact h2 0 (i + 1) x e (by omega) rfl (by simpa using hi)
theorem faultE_zero {s : Nat} {l : List En} : faultE s l = 0 ↔ (∀ e ∈ l, mayE s e) ∧ RisenE l := by
  unfold faultE
  rw [faultF_zero]
  constructor
  · rintro ⟨h1, h2⟩; exact ⟨fun e he => (h1 e he).1, h2⟩
  · rintro ⟨h1, h2⟩; exact ⟨fun e he => ⟨h1 e he, nil_lt (h1 e he).1⟩, h2⟩
theorem RisenE.sub {l m : List En} (h : RisenE l) (hs : List.Sublist m l) : RisenE m := by
  have hp : List.Pairwise (fun x y : En => x.k < y.k) l := by
    rw [List.pairwise_iff_getElem]
    intro i j hi hj hij
    exact h i j _ _ hij (List.getElem?_eq_getElem hi) (List.getElem?_eq_getElem hj)
  have hm := hp.sublist hs
  rw [List.pairwise_iff_getElem] at hm
  intro i j x y hij hx hy
  obtain ⟨hi, rfl⟩ := List.getElem?_eq_some_iff.1 hx
  obtain ⟨hj, rfl⟩ := List.getElem?_eq_some_iff.1 hy
  exact hm i j hi hj hij
theorem risen_iff {l : List En} : RisenE l ↔ List.Pairwise (fun x y : En => x.k < y.k) l := by
  rw [List.pairwise_iff_getElem]
  constructor
  · intro h i j hi hj hij; exact h i j _ _ hij (List.getElem?_eq_getElem hi) (List.getElem?_eq_getElem hj)
  · intro hm i j x y hij hx hy
    obtain ⟨hi, rfl⟩ := List.getElem?_eq_some_iff.1 hx
    obtain ⟨hj, rfl⟩ := List.getElem?_eq_some_iff.1 hy
    exact hm i j hi hj hij
/-- With an entry put in they rise. -/
theorem put_risen {l : List En} {e : En} {p : Nat} {b : Bool} (h : RisenE l) (hf : FindAt l e.k p b) : RisenE (putE l e p b) := by
  have h0 := risen_iff.1 h
  have hsub : List.Sublist (l.drop (if b then p + 1 else p)) l := List.drop_sublist _ _
  rw [risen_iff]
  unfold putE
  have hlo : ∀ x ∈ l.take p, x.k < e.k := fun x hx => by
    obtain ⟨i, hi⟩ := List.getElem?_of_mem hx
    rw [List.getElem?_take] at hi
    split at hi
    · exact hf.lt i x (by assumption) hi
    · cases hi
  have hhi : ∀ x ∈ l.drop (if b then p + 1 else p), e.k < x.k := fun x hx => by
    obtain ⟨i, hi⟩ := List.getElem?_of_mem hx
    rw [List.getElem?_drop] at hi
    cases b with
    | true =>
      obtain ⟨y, hy, hk⟩ := hf.is.1 rfl
      have := h p (p + 1 + i) y x (by omega) hy (by simpa using hi)
      rw [hk] at this
      exact this
    | false =>
      have h1 := hf.ge (p + i) x (by omega) (by simpa using hi)
      have h2 : ¬ e.k = x.k := fun hk => by
        have : ∃ y, l[p]? = some y ∧ y.k = e.k := by
          by_cases hi0 : i = 0
          · subst hi0; exact ⟨x, by simpa using hi, hk.symm⟩
          · obtain ⟨y, hy⟩ : ∃ y, l[p]? = some y := ⟨l[p]'(by have := (List.getElem?_eq_some_iff.1 hi).1; simp at this; omega), List.getElem?_eq_getElem _⟩
            have h3 := h p (p + i) y x (by omega) hy (by simpa using hi)
            have h4 := hf.ge p y (Nat.le_refl _) hy
            exfalso
            rw [← hk] at h3
            exact h4 h3
        exact absurd (hf.is.2 this) (by simp)
      grind
  rw [List.append_assoc, List.pairwise_append]
  refine ⟨h0.sublist (List.take_sublist _ _), ?_, ?_⟩
  · rw [List.singleton_append, List.pairwise_cons]
    exact ⟨hhi, h0.sublist hsub⟩
  · intro x hx y hy
    rw [List.singleton_append] at hy
    rcases List.mem_cons.1 hy with rfl | hy
    · exact hlo x hx
    · exact List.lt_trans (hlo x hx) (hhi y hy)
theorem put_may {s : Nat} {l : List En} {e : En} {p : Nat} {b : Bool} (h : ∀ x ∈ l, mayE s x) (he : mayE s e) : ∀ x ∈ putE l e p b, mayE s x := fun x hx => by
  unfold putE at hx
  simp only [List.mem_append, List.mem_singleton] at hx
  rcases hx with (hx | rfl) | hx
  · exact h x (List.mem_of_mem_take hx)
  · exact he
  · exact h x (List.mem_of_mem_drop hx)

theorem comK_min (a b c : Key) : min (comK a b) (comK b c) ≤ comK a c := by
  induction a generalizing b c with
  | nil => simp [comK]
  | cons x r ih =>
    cases b with
    | nil => simp [comK]
    | cons y t =>
      cases c with
      | nil => simp [comK]
      | cons z u =>
        have := ih t u
        by_cases h1 : x = y
        · by_cases h2 : y = z
          · subst h1 h2; simp only [comK, if_true]; omega
          · simp [comK, h2]
        · simp [comK, h1]
/-- Fewer entries have fewer bytes. -/
theorem bytesF_drop1 (p : Key) (e : En) (l : List En) : bytesF p l ≤ bytesF p (e :: l) := by
  cases l with
  | nil => simp [bytesF]
  | cons x r =>
    have h1 := comK_min p e.k x.k
    have h2 := comK_right p e.k
    have h3 := comK_left e.k x.k
    have h4 := comK_right p x.k
    have h5 := comK_right e.k x.k
    simp only [bytesF, enLen]
    omega
theorem bytesF_sub {p : Key} {l m : List En} (h : List.Sublist m l) : bytesF p m ≤ bytesF p l := by
  induction h generalizing p with
  | slnil => exact Nat.le_refl _
  | cons e _ ih => exact Nat.le_trans ih (bytesF_drop1 p e _)
  | cons_cons e _ ih => simp only [bytesF]; have := ih (p := e.k); omega
theorem cut_fits {z : Int} {l : List En} (r : Rg) (h : checkE z l = 0) : checkE z (cutE r l) = 0 ∧ bytesE (cutE r l) ≤ bytesE l := by
  obtain ⟨hz, hf, hb⟩ := checkE_ok h
  have hsub : List.Sublist (cutE r l) l := List.filter_sublist
  have h1 := bytesF_sub (p := []) hsub
  have h2 : bytesE (cutE r l) ≤ bytesE l := by unfold bytesE; omega
  obtain ⟨m1, m2⟩ := faultE_zero.1 hf
  have h3 : faultE z.toNat (cutE r l) = 0 := faultE_zero.2 ⟨fun e he => m1 e (hsub.subset he), m2.sub hsub⟩
  refine ⟨?_, h2⟩
  rw [checkE_sized hz, h3]
  simp
  omega
/-- One entry alone. -/
theorem one_fits {z : Int} (hz : Sized z) (e : En) : checkE z [e] = 0 ↔ mayE z.toNat e := by
  have hs := sized_le hz
  rw [checkE_sized hz]
  by_cases hm : mayE z.toNat e
  · have h3 : faultE z.toNat [e] = 0 := faultE_zero.2 ⟨fun x hx => by simp at hx; rw [hx]; exact hm, fun i j x y hij hx hy => by
      have h1 := (List.getElem?_eq_some_iff.1 hx).1
      have h2 := (List.getElem?_eq_some_iff.1 hy).1
      simp at h1 h2; omega⟩
    have hb : bytesE [e] ≤ z.toNat - 32 := by
      unfold mayE at hm
      simp only [bytesE, bytesF, enLen, comK_nil]
      omega
    rw [h3]
    simp [hm]
    omega
  · have h3 : faultE z.toNat [e] ≠ 0 := fun h => hm ((faultE_zero.1 h).1 e (by simp))
    rw [if_pos h3]
    exact ⟨fun h => absurd h h3, fun h => absurd h hm⟩
theorem put_bytes {s : Nat} {l : List En} {e : En} {p : Nat} {b : Bool} (h : ∀ x ∈ l, mayE s x) (he : mayE s e) : bytesE (putE l e p b) ≤ bytesE l + (6 + s / 16 + s / 4) + s / 16 := by
  obtain ⟨t, ht⟩ : ∃ t, t = if b then p + 1 else p := ⟨_, rfl⟩
  have hpt : p ≤ t := by rw [ht]; split <;> omega
  have h1 := bytesF_split [] l t
  have h2 : bytesF [] (l.take p) ≤ bytesF [] (l.take t) := bytesF_sub (by
    have : l.take p = (l.take t).take p := by rw [List.take_take, Nat.min_eq_left hpt]
    rw [this]; exact List.take_sublist _ _)
  have h3 : bytesF [] (l.drop t) ≤ bytesF (prevF [] l t) (l.drop t) + s / 16 := by
    cases hd : l.drop t with
    | nil => simp [bytesF]
    | cons x r =>
      have h4 := bytesF_whole (prevF [] l t) x r
      have h5 := comK_right (prevF [] l t) x.k
      have h6 := h x (List.mem_of_mem_drop (by rw [hd]; exact List.mem_cons_self ..))
      unfold mayE at h6
      omega
  have h7 : bytesF [] (l.take p ++ (e :: l.drop t)) ≤ bytesF [] (l.take p) + (6 + e.k.length + e.v.length) + bytesF [] (l.drop t) := by
    have h8 := bytesF_split [] (l.take p ++ (e :: l.drop t)) (l.take p).length
    rw [List.take_left, List.drop_left] at h8
    have h9 : bytesF e.k (l.drop t) ≤ bytesF [] (l.drop t) := by
      cases l.drop t with
      | nil => simp [bytesF]
      | cons x r => have := bytesF_whole e.k x r; omega
    have h10 := enLen_le (prevF [] (l.take p ++ (e :: l.drop t)) (l.take p).length) e
    simp only [bytesF] at h8
    omega
  unfold mayE at he
  unfold putE bytesE
  rw [← ht, List.append_assoc, List.singleton_append]
  omega

theorem bestE_is (l : List En) (m : Nat) (hm : 1 ≤ m) : 1 ≤ (bestE l m).1 ∧ (bestE l m).1 ≤ m ∧ halfE l (bestE l m).1 = (bestE l m).2 ∧ ∀ n, 1 ≤ n → n ≤ m → (bestE l m).2 ≤ halfE l n := by
  induction m with
  | zero => omega
  | succ m ih =>
    by_cases h0 : m = 0
    · subst h0
      simp only [bestE, true_or, if_true]
      exact ⟨by omega, by omega, by simp, fun n h1 h2 => by have : n = 1 := by omega
                                                            subst this; simp⟩
    · obtain ⟨i1, i2, i3, i4⟩ := ih (by omega)
      unfold bestE
      split
      · rename_i hc
        refine ⟨by omega, Nat.le_refl _, rfl, fun n h1 h2 => ?_⟩
        simp only
        by_cases hn : n = m + 1
        · subst hn; exact Nat.le_refl _
        · have := i4 n h1 (by omega)
          rcases hc with hc | hc <;> omega
      · rename_i hc
        refine ⟨i1, by omega, i3, fun n h1 h2 => ?_⟩
        by_cases hn : n = m + 1
        · subst hn; omega
        · exact i4 n h1 (by omega)
/-- No dead end. -/
theorem half_fits {z : Int} (hz : Sized z) {l : List En} (hm : ∀ x ∈ l, mayE z.toNat x) (hb : z.toNat - 32 < bytesE l) (hu : bytesE l ≤ z.toNat - 32 + (6 + z.toNat / 16 + z.toNat / 4) + z.toNat / 16) : ∃ n, 1 ≤ n ∧ n < l.length ∧ halfE l n ≤ z.toNat - 32 := by
  have hs := sized_le hz
  -- the greatest number whose entries still fit
  have key : ∀ d, ∃ n, n ≤ d ∧ bytesE (l.take n) ≤ z.toNat - 32 ∧ (n = d ∨ z.toNat - 32 < bytesE (l.take (n + 1))) := by
    intro d
    induction d with
    | zero => exact ⟨0, Nat.le_refl _, by simp [bytesE, bytesF]; omega, .inl rfl⟩
    | succ d ih =>
      obtain ⟨n, h1, h2, h3⟩ := ih
      rcases h3 with rfl | h3
      · by_cases h4 : bytesE (l.take (n + 1)) ≤ z.toNat - 32
        · exact ⟨n + 1, Nat.le_refl _, h4, .inl rfl⟩
        · exact ⟨n, by omega, h2, .inr (by omega)⟩
      · exact ⟨n, by omega, h2, .inr h3⟩
  obtain ⟨n, hn1, hn2, hn3⟩ := key l.length
  have hn4 : z.toNat - 32 < bytesE (l.take (n + 1)) := by
    rcases hn3 with rfl | h
    · rw [List.take_length] at hn2; omega
    · exact h
  have hnl : n < l.length := by
    rcases Nat.lt_or_ge n l.length with h | h
    · exact h
    · rw [List.take_of_length_le h] at hn2; omega
  obtain ⟨e, he⟩ : ∃ e, l[n]? = some e := ⟨_, List.getElem?_eq_getElem hnl⟩
  have h5 := bytesE_take he
  have h6 := enLen_le (prevK l n) e
  have h7 := hm e (List.mem_of_getElem? he)
  unfold mayE at h7
  have hn0 : 1 ≤ n := by
    rcases Nat.eq_zero_or_pos n with h0 | h0
    · subst h0
      simp [bytesE, bytesF] at h5 hn4
      omega
    · exact h0
  obtain ⟨h8, h9⟩ := bytes_cut he
  have h10 := comK_right (prevK l n) e.k
  refine ⟨n, hn0, hnl, ?_⟩
  unfold halfE
  omega
theorem split_fits {z : Int} (hz : Sized z) {l : List En} (hf : faultE z.toNat l = 0) (hb : z.toNat - 32 < bytesE l) (hu : bytesE l ≤ z.toNat - 32 + (6 + z.toNat / 16 + z.toNat / 4) + z.toNat / 16) :
    (splitE z l).2 = 0 ∧ 1 ≤ (splitE z l).1 ∧ (splitE z l).1 < l.length ∧ checkE z (l.take (splitE z l).1) = 0 ∧ checkE z (l.drop (splitE z l).1) = 0 := by
  obtain ⟨m1, m2⟩ := faultE_zero.1 hf
  obtain ⟨n, hn1, hn2, hn3⟩ := half_fits hz m1 hb hu
  obtain ⟨b1, b2, b3, b4⟩ := bestE_is l (l.length - 1) (by omega)
  have h1 := b4 n hn1 (by omega)
  have hsp : splitE z l = ((bestE l (l.length - 1)).1, 0) := by
    unfold splitE
    rw [if_neg (by simp; exact ⟨hz, by omega⟩), if_neg (by simp [hf]), if_neg (by omega)]
  rw [hsp]
  simp only
  have hh : halfE l (bestE l (l.length - 1)).1 ≤ z.toNat - 32 := by omega
  unfold halfE at hh
  have ck : ∀ m, List.Sublist m l → bytesE m ≤ z.toNat - 32 → checkE z m = 0 := fun m hsub hbm => by
    have h3 : faultE z.toNat m = 0 := faultE_zero.2 ⟨fun e he => m1 e (hsub.subset he), m2.sub hsub⟩
    rw [checkE_sized hz, h3]
    simp
    omega
  exact ⟨trivial, b1, by omega, ck _ (List.take_sublist _ _) (by omega), ck _ (List.drop_sublist _ _) (by omega)⟩
theorem bytesF_sum (p : Key) (l : List En) : bytesF p l ≤ (l.map fun e => 6 + e.k.length + e.v.length).sum := by
  induction l generalizing p with
  | nil => simp [bytesF]
  | cons e r ih => have := ih e.k; have := enLen_le p e; simp only [bytesF, List.map_cons, List.sum_cons]; omega
end Go.Proofs.Ytgifnaahahfhbab
