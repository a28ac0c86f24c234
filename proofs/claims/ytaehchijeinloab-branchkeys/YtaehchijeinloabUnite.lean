/- Ranges put together: the one list of ranges in their forms that rise and do not touch, with just the keys of some. -/
import Derived.Test.YtaehchijeinloabMeet
namespace Go.Proofs.Ytaehchijeinloab

namespace Rg
def stretch (r o : Rg) : Rg := if !r.all && (o.all || decide (r.hi < o.hi)) then ⟨r.lo, o.hi, o.all⟩ else r
def reach (l : Rg) (k : Key) : Bool := l.all || decide (k ≤ l.hi)
/-- One more range, behind those that are put together. -/
def add : List Rg → Rg → List Rg
  | [], r => [r]
  | [l], r => if reach l r.lo then [l.stretch r] else [l, r]
  | a :: b :: t, r => a :: add (b :: t) r
theorem add_last (c : List Rg) (l r : Rg) : add (c ++ [l]) r = if reach l r.lo then c ++ [l.stretch r] else c ++ [l] ++ [r] := by
  induction c with
  | nil => rw [List.nil_append, add]; split <;> rfl
  | cons a c ih =>
    cases c with
    | nil => show a :: add [l] r = _; rw [add]; split <;> rfl
    | cons b c =>
      show a :: add (b :: c ++ [l]) r = _
      rw [ih]
      split <;> rfl
def unite (l : List Rg) : List Rg := l.foldl add []
theorem unite_snoc (l : List Rg) (r : Rg) : unite (l ++ [r]) = add (unite l) r := by simp [unite]
/-- Is a key in one of them? -/
def In (c : List Rg) (k : Key) : Prop := ∃ r ∈ c, r.has k = true
def Sep (a b : Rg) : Prop := a.all = false ∧ a.hi < b.lo
structure Inv (d c : List Rg) : Prop where
  full : ∀ r ∈ c, r.empty = false
  sep : c.Pairwise Sep
  keys : ∀ k, In c k ↔ In d k
  los : ∀ r ∈ c, ∃ x ∈ d, r.lo = x.lo
theorem stretch_lo (l r : Rg) : (l.stretch r).lo = l.lo := by unfold stretch; split <;> rfl
theorem stretch_has (l r : Rg) (hl : l.empty = false) (hr : r.empty = false) (hle : l.lo ≤ r.lo) (hre : reach l r.lo = true) (k : Key) : (l.stretch r).has k = (l.has k || r.has k) := by
  unfold stretch has
  unfold reach at hre
  unfold empty at hl hr
  rcases l with ⟨lo, hi, all⟩
  rcases r with ⟨lo', hi', all'⟩
  cases all <;> cases all' <;> simp at * <;> grind
theorem stretch_full (l r : Rg) (hl : l.empty = false) : (l.stretch r).empty = false := by
  unfold stretch empty at *
  rcases l with ⟨lo, hi, all⟩
  rcases r with ⟨lo', hi', all'⟩
  cases all <;> cases all' <;> simp at * <;> grind
theorem in_append (a b : List Rg) (k : Key) : In (a ++ b) k ↔ In a k ∨ In b k := by
  unfold In
  constructor
  · rintro ⟨r, hr, h⟩
    rcases List.mem_append.1 hr with h' | h'
    · exact .inl ⟨r, h', h⟩
    · exact .inr ⟨r, h', h⟩
  · rintro (⟨r, hr, h⟩ | ⟨r, hr, h⟩)
    · exact ⟨r, List.mem_append_left _ hr, h⟩
    · exact ⟨r, List.mem_append_right _ hr, h⟩
theorem in_one (r : Rg) (k : Key) : In [r] k ↔ r.has k = true := by simp [In]
theorem Inv.step {d c : List Rg} (h : Inv d c) (r : Rg) (hr : r.empty = false) (hle : ∀ x ∈ d, x.lo ≤ r.lo) : Inv (d ++ [r]) (add c r) := by
  rcases List.eq_nil_or_concat c with rfl | ⟨c', l, rfl⟩
  · refine ⟨by simpa [add] using hr, by simp [add], fun k => ?_, fun x hx => ⟨r, by simp, by simp [add] at hx; rw [hx]⟩⟩
    rw [in_append, ← h.keys k]
    simp [add, In]
  · simp only [List.concat_eq_append] at *
    rw [add_last]
    have hll : l.lo ≤ r.lo := by
      obtain ⟨x, hx, e⟩ := h.los l (by simp)
      rw [e]; exact hle x hx
    have hlf := h.full l (by simp)
    have hsep := h.sep
    rw [List.pairwise_append] at hsep
    obtain ⟨hs1, _, hs3⟩ := hsep
    split
    · rename_i hre
      refine ⟨fun x hx => ?_, ?_, fun k => ?_, fun x hx => ?_⟩
      · rcases List.mem_append.1 hx with h' | h'
        · exact h.full x (List.mem_append_left _ h')
        · simp at h'; rw [h']; exact stretch_full l r hlf
      · rw [List.pairwise_append]
        refine ⟨hs1, by simp, fun a ha b hb => ?_⟩
        simp at hb
        have := hs3 a ha l (by simp)
        rw [hb]
        exact ⟨this.1, by rw [stretch_lo]; exact this.2⟩
      · rw [in_append, in_append, ← h.keys k, in_append, in_one, in_one, in_one, stretch_has l r hlf hr hll hre, Bool.or_eq_true, or_assoc]
      · rcases List.mem_append.1 hx with h' | h'
        · obtain ⟨y, hy, e⟩ := h.los x (List.mem_append_left _ h')
          exact ⟨y, List.mem_append_left _ hy, e⟩
        · simp at h'
          obtain ⟨y, hy, e⟩ := h.los l (by simp)
          exact ⟨y, List.mem_append_left _ hy, by rw [h', stretch_lo]; exact e⟩
    · rename_i hre
      have hla : l.all = false ∧ l.hi < r.lo := by unfold reach at hre; simp at hre; exact hre
      refine ⟨fun x hx => ?_, ?_, fun k => ?_, fun x hx => ?_⟩
      · rcases List.mem_append.1 hx with h' | h'
        · exact h.full x h'
        · simp at h'; rw [h']; exact hr
      · rw [List.pairwise_append]
        refine ⟨h.sep, by simp, fun a ha b hb => ?_⟩
        simp at hb
        rw [hb]
        rcases List.mem_append.1 ha with h' | h'
        · have := hs3 a h' l (by simp)
          exact ⟨this.1, by have := this.2; grind⟩
        · simp at h'; rw [h']; exact hla
      · rw [in_append, in_append (a := d), ← h.keys k]
      · rcases List.mem_append.1 hx with h' | h'
        · obtain ⟨y, hy, e⟩ := h.los x h'
          exact ⟨y, List.mem_append_left _ hy, e⟩
        · simp at h'; exact ⟨r, by simp, by rw [h']⟩
theorem unite_inv (l : List Rg) (hf : ∀ r ∈ l, r.empty = false) (hs : l.Pairwise fun a b => a.lo ≤ b.lo) : Inv l (unite l) := by
  have key : ∀ n, n ≤ l.length → Inv (l.take n) (unite (l.take n)) := by
    intro n
    induction n with
    | zero => intro _; exact ⟨by simp [unite], by simp [unite], by simp [unite], by simp [unite]⟩
    | succ n ih =>
      intro hn
      have e : l.take (n + 1) = l.take n ++ [l[n]] := by rw [List.take_add_one, List.getElem?_eq_getElem (by omega)]; rfl
      rw [e, unite_snoc]
      refine (ih (by omega)).step _ (hf _ (List.getElem_mem (by omega))) fun x hx => ?_
      obtain ⟨i, hi, rfl⟩ := List.getElem_of_mem hx
      rw [List.length_take] at hi
      rw [List.getElem_take]
      exact List.pairwise_iff_getElem.1 hs i n (by omega) (by omega) (by omega)
  have := key l.length (Nat.le_refl _)
  rwa [List.take_length] at this

/-- In their forms, none empty; they rise and do not touch. -/
structure Canon (c : List Rg) : Prop where
  full : ∀ r ∈ c, r.empty = false ∧ r.formed = true
  sep : c.Pairwise Sep
theorem form_lo {r : Rg} (h : r.empty = false) : r.form.lo = r.lo := by unfold form; rw [h]; simp only [Bool.false_eq_true, if_false]; split <;> rfl
theorem form_all {r : Rg} (h : r.empty = false) : r.form.all = r.all := by unfold form; rw [h]; simp only [Bool.false_eq_true, if_false]; split <;> simp_all
theorem form_hi {r : Rg} (h : r.empty = false) (ha : r.all = false) : r.form.hi = r.hi := by unfold form; simp [h, ha]
theorem Inv.canon {d c : List Rg} (h : Inv d c) : Canon (c.map form) ∧ ∀ k, In (c.map form) k ↔ In d k := by
  refine ⟨⟨fun r hr => ?_, ?_⟩, fun k => ?_⟩
  · obtain ⟨x, hx, rfl⟩ := List.mem_map.1 hr
    exact ⟨by rw [form_empty]; exact h.full x hx, form_formed x⟩
  · rw [List.pairwise_map]
    refine (List.Pairwise.and_mem.1 h.sep).imp ?_
    rintro a b ⟨ha, hb, hs⟩
    exact ⟨by rw [form_all (h.full a ha)]; exact hs.1, by rw [form_hi (h.full a ha) hs.1, form_lo (h.full b hb)]; exact hs.2⟩
  · rw [← h.keys k]
    unfold In
    constructor
    · rintro ⟨r, hr, hk⟩
      obtain ⟨x, hx, rfl⟩ := List.mem_map.1 hr
      exact ⟨x, hx, by rw [← has_form]; exact hk⟩
    · rintro ⟨x, hx, hk⟩
      exact ⟨x.form, List.mem_map_of_mem hx, by rw [has_form]; exact hk⟩
theorem Canon.tail {a : Rg} {c : List Rg} (h : Canon (a :: c)) : Canon c := ⟨fun r hr => h.full r (List.mem_cons_of_mem _ hr), (List.pairwise_cons.1 h.sep).2⟩
/-- A key of a later one is above the first one's. -/
theorem Canon.later {a : Rg} {c : List Rg} (h : Canon (a :: c)) {k : Key} (hk : In c k) : a.all = false ∧ a.hi < k := by
  obtain ⟨r, hr, h1⟩ := hk
  obtain ⟨h2, h3⟩ := (List.pairwise_cons.1 h.sep).1 r hr
  unfold has at h1
  simp at h1
  exact ⟨h2, by have := h1.1; grind⟩
theorem in_cons (a : Rg) (c : List Rg) (k : Key) : In (a :: c) k ↔ a.has k = true ∨ In c k := by simp [In]
theorem canon_first {a b : Rg} {c d : List Rg} (h1 : Canon (a :: c)) (h2 : Canon (b :: d)) (h : ∀ k, In (a :: c) k ↔ In (b :: d) k) : a = b := by
  obtain ⟨fa, ga⟩ := h1.full a (by simp)
  obtain ⟨fb, gb⟩ := h2.full b (by simp)
  have la : b.lo ≤ a.lo := by
    have := (h a.lo).1 ((in_cons _ _ _).2 (.inl (has_lo a fa)))
    rcases (in_cons _ _ _).1 this with h' | h'
    · unfold has at h'; simp at h'; exact h'.1
    · have := (h2.later h').2
      have hb := has_lo b fb
      have h3 := (h2.later h').1
      unfold has at hb
      simp [h3] at hb
      grind
  have lb : a.lo ≤ b.lo := by
    have := (h b.lo).2 ((in_cons _ _ _).2 (.inl (has_lo b fb)))
    rcases (in_cons _ _ _).1 this with h' | h'
    · unfold has at h'; simp at h'; exact h'.1
    · have := (h1.later h').2
      have hb := has_lo a fa
      have h3 := (h1.later h').1
      unfold has at hb
      simp [h3] at hb
      grind
  -- where the one ends the other one does
  have ends : ∀ {x y : Rg} {c d : List Rg}, Canon (x :: c) → Canon (y :: d) → (∀ k, In (x :: c) k ↔ In (y :: d) k) → x.lo = y.lo → x.all = false → y.has x.hi = false := by
    intro x y c d k1 k2 hk hlo hx
    cases hy : y.has x.hi with
    | false => rfl
    | true =>
      have := (hk x.hi).2 ((in_cons _ _ _).2 (.inl hy))
      rcases (in_cons _ _ _).1 this with h' | h'
      · unfold has at h'; simp [hx] at h'; have := h'.2; grind
      · have := (k1.later h').2; grind
  have hlo : a.lo = b.lo := by grind
  apply form_eq ga gb
  intro k
  have e1 := ends h1 h2 h hlo
  have e2 := ends h2 h1 (fun k => (h k).symm) hlo.symm
  unfold has at *
  unfold empty at fa fb
  rcases a with ⟨lo, hi, all⟩
  rcases b with ⟨lo', hi', all'⟩
  cases all <;> cases all' <;> simp at * <;> grind
theorem canon_unique {c d : List Rg} (h1 : Canon c) (h2 : Canon d) (h : ∀ k, In c k ↔ In d k) : c = d := by
  induction c generalizing d with
  | nil =>
    cases d with
    | nil => rfl
    | cons b d =>
      have := (h b.lo).2 ((in_cons _ _ _).2 (.inl (has_lo b (h2.full b (by simp)).1)))
      simp [In] at this
  | cons a c ih =>
    cases d with
    | nil =>
      have := (h a.lo).1 ((in_cons _ _ _).2 (.inl (has_lo a (h1.full a (by simp)).1)))
      simp [In] at this
    | cons b d =>
      obtain rfl := canon_first h1 h2 h
      congr 1
      apply ih h1.tail h2.tail
      intro k
      have hk := h k
      rw [in_cons, in_cons] at hk
      have out : ∀ {c : List Rg}, Canon (a :: c) → In c k → ¬ a.has k = true := fun hc hi ha => by
        have := hc.later hi
        unfold has at ha
        simp [this.1] at ha
        have := this.2
        grind
      constructor
      · intro hc
        rcases hk.1 (.inr hc) with h' | h'
        · exact absurd h' (out h1 hc)
        · exact h'
      · intro hd
        rcases hk.2 (.inr hd) with h' | h'
        · exact absurd h' (out h2 hd)
        · exact h'

/-- By rising Lo. -/
def ins (r : Rg) : List Rg → List Rg
  | [] => [r]
  | a :: l => if r.lo ≤ a.lo then r :: a :: l else a :: ins r l
def byLo : List Rg → List Rg
  | [] => []
  | a :: l => ins a (byLo l)
theorem ins_perm (r : Rg) (l : List Rg) : (ins r l).Perm (r :: l) := by
  induction l with
  | nil => exact List.Perm.refl _
  | cons a l ih =>
    unfold ins
    split
    · exact List.Perm.refl _
    · exact ((ih.cons a).trans (List.Perm.swap r a l))
theorem byLo_perm (l : List Rg) : (byLo l).Perm l := by
  induction l with
  | nil => exact List.Perm.refl _
  | cons a l ih => exact (ins_perm a (byLo l)).trans (ih.cons a)
theorem ins_rises (r : Rg) (l : List Rg) (h : l.Pairwise fun a b => a.lo ≤ b.lo) : (ins r l).Pairwise fun a b => a.lo ≤ b.lo := by
  induction l with
  | nil => simp [ins]
  | cons a l ih =>
    obtain ⟨h1, h2⟩ := List.pairwise_cons.1 h
    unfold ins
    split
    · rename_i hle
      refine List.pairwise_cons.2 ⟨fun b hb => ?_, h⟩
      rcases List.mem_cons.1 hb with rfl | hb
      · exact hle
      · have := h1 b hb; grind
    · rename_i hle
      refine List.pairwise_cons.2 ⟨fun b hb => ?_, ih h2⟩
      rcases List.mem_cons.1 ((ins_perm r l).mem_iff.1 hb) with rfl | hb
      · grind
      · exact h1 b hb
theorem byLo_rises (l : List Rg) : (byLo l).Pairwise fun a b => a.lo ≤ b.lo := by
  induction l with
  | nil => exact List.Pairwise.nil
  | cons a l ih => exact ins_rises a _ ih
/-- Cover's answer. -/
def cover (l : List Rg) : List Rg := (unite (byLo (l.filter fun r => !r.empty))).map form
theorem in_perm {c d : List Rg} (h : c.Perm d) (k : Key) : In c k ↔ In d k := by
  unfold In
  constructor <;> rintro ⟨r, hr, hk⟩
  · exact ⟨r, h.mem_iff.1 hr, hk⟩
  · exact ⟨r, h.mem_iff.2 hr, hk⟩
theorem in_full (l : List Rg) (k : Key) : In (l.filter fun r => !r.empty) k ↔ In l k := by
  unfold In
  constructor
  · rintro ⟨r, hr, hk⟩; exact ⟨r, (List.mem_filter.1 hr).1, hk⟩
  · rintro ⟨r, hr, hk⟩; exact ⟨r, List.mem_filter.2 ⟨hr, by rw [not_empty r k hk]; rfl⟩, hk⟩
/-- Whatever the order among those with one Lo. -/
theorem unite_any (l s : List Rg) (hp : s.Perm (l.filter fun r => !r.empty)) (hs : s.Pairwise fun a b => a.lo ≤ b.lo) : Canon ((unite s).map form) ∧ ∀ k, In ((unite s).map form) k ↔ In l k := by
  have hf : ∀ r ∈ s, r.empty = false := fun r hr => by
    have := (List.mem_filter.1 (hp.mem_iff.1 hr)).2
    simpa using this
  obtain ⟨h1, h2⟩ := (unite_inv s hf hs).canon
  exact ⟨h1, fun k => by rw [h2, in_perm hp, in_full]⟩
theorem cover_spec (l : List Rg) : Canon (cover l) ∧ ∀ k, In (cover l) k ↔ In l k := unite_any l _ (byLo_perm _) (byLo_rises _)
theorem cover_is {l c : List Rg} (h : Canon c) (hk : ∀ k, In c k ↔ In l k) : c = cover l :=
  canon_unique h (cover_spec l).1 fun k => by rw [hk, (cover_spec l).2]
theorem unite_cover (l s : List Rg) (hp : s.Perm (l.filter fun r => !r.empty)) (hs : s.Pairwise fun a b => a.lo ≤ b.lo) : (unite s).map form = cover l := by
  obtain ⟨h1, h2⟩ := unite_any l s hp hs
  exact cover_is h1 h2
end Rg
end Go.Proofs.Ytaehchijeinloab
