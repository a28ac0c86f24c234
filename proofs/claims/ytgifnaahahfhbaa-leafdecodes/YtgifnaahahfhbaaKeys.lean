/- Keys and ranges as lists: the order of keys, ranges as sets of keys, one form; lists of ranges put together. -/
import Derived.Test.YtgifnaahahfhbaaProg
namespace Go.Proofs.Ytgifnaahahfhbaa

abbrev Key := List UInt8
/-- Compare's answer. -/
def cmpK (a b : Key) : Int := if a < b then -1 else if b < a then 1 else 0
theorem cmpK_lt {a b : Key} : cmpK a b < 0 ↔ a < b := by unfold cmpK; grind
theorem cmpK_ge {a b : Key} : 0 ≤ cmpK a b ↔ b ≤ a := by unfold cmpK; grind
theorem cmpK_le {a b : Key} : cmpK a b ≤ 0 ↔ a ≤ b := by unfold cmpK; grind
theorem cmpK_gt {a b : Key} : 0 < cmpK a b ↔ b < a := by unfold cmpK; grind
theorem cmpK_eq {a b : Key} : cmpK a b = 0 ↔ a = b := by unfold cmpK; grind
theorem cmpK_neg (a b : Key) : cmpK b a = - cmpK a b := by unfold cmpK; grind
theorem cmpK_three (a b : Key) : cmpK a b = -1 ∨ cmpK a b = 0 ∨ cmpK a b = 1 := by unfold cmpK; grind
theorem cmpK_lt_one {a b : Key} : cmpK a b = -1 ↔ a < b := by unfold cmpK; grind

/-- How many bytes two keys have alike. -/
def comK : Key → Key → Nat
  | a :: r, b :: s => if a = b then comK r s + 1 else 0
  | _, _ => 0
theorem comK_left (a b : Key) : comK a b ≤ a.length := by
  induction a generalizing b with
  | nil => simp [comK]
  | cons x r ih =>
    cases b with
    | nil => simp [comK]
    | cons y s => unfold comK; split <;> simp [ih]
theorem comK_comm (a b : Key) : comK a b = comK b a := by
  induction a generalizing b with
  | nil => cases b <;> simp [comK]
  | cons x r ih =>
    cases b with
    | nil => simp [comK]
    | cons y s => unfold comK; simp only [ih s]; by_cases e : x = y <;> simp [e, eq_comm]
theorem comK_right (a b : Key) : comK a b ≤ b.length := by rw [comK_comm]; exact comK_left b a
theorem comK_take (a b : Key) : a.take (comK a b) = b.take (comK a b) := by
  induction a generalizing b with
  | nil => simp [comK]
  | cons x r ih =>
    cases b with
    | nil => simp [comK]
    | cons y s =>
      unfold comK
      split
      · rename_i e; subst e; simp [ih s]
      · simp
/-- Two keys part where they say. -/
theorem comK_part (a b : Key) (h1 : comK a b < a.length) (h2 : comK a b < b.length) : a[comK a b] ≠ b[comK a b] := by
  induction a generalizing b with
  | nil => simp at h1
  | cons x r ih =>
    cases b with
    | nil => simp at h2
    | cons y s =>
      unfold comK at h1 h2 ⊢
      by_cases e : x = y
      · subst e
        simp only [if_true, List.length_cons, Nat.add_lt_add_iff_right] at h1 h2
        simp only [if_true, List.getElem_cons_succ]
        exact ih s h1 h2
      · simp only [if_neg e, List.getElem_cons_zero]
        exact e
/-- A number below which they are alike, and where they part or one ends. -/
theorem comK_is (a b : Key) (n : Nat) (ha : n ≤ a.length) (hb : n ≤ b.length) (ht : a.take n = b.take n) (h : ∀ (h1 : n < a.length) (h2 : n < b.length), a[n] ≠ b[n]) : comK a b = n := by
  induction a generalizing b n with
  | nil => simp at ha; subst ha; simp [comK]
  | cons x r ih =>
    cases b with
    | nil => simp at hb; subst hb; simp [comK]
    | cons y s =>
      cases n with
      | zero =>
        unfold comK
        rw [if_neg]
        exact h (by simp) (by simp)
      | succ n =>
        simp only [List.take_succ_cons, List.cons.injEq] at ht
        obtain ⟨rfl, ht⟩ := ht
        unfold comK
        rw [if_pos rfl, ih s n (by simpa using ha) (by simpa using hb) ht]
        intro h1 h2
        have := h (by simpa using h1) (by simpa using h2)
        simpa using this
/-- The order, by where two keys part. -/
theorem lt_iff_com (a b : Key) : a < b ↔ (comK a b = a.length ∧ comK a b < b.length) ∨ ∃ (h1 : comK a b < a.length) (h2 : comK a b < b.length), a[comK a b] < b[comK a b] := by
  induction a generalizing b with
  | nil =>
    cases b with
    | nil => simp [comK]
    | cons y s => simp [comK]
  | cons x r ih =>
    cases b with
    | nil => simp [comK]
    | cons y s =>
      rw [List.cons_lt_cons_iff]
      by_cases e : x = y
      · subst e
        have hn : ¬ x < x := by simp
        have e1 : comK (x :: r) (x :: s) = comK r s + 1 := by simp [comK]
        rw [ih s]
        simp only [e1, List.length_cons, Nat.add_right_cancel_iff, Nat.add_lt_add_iff_right, List.getElem_cons_succ, hn, false_or, true_and]
      · have e1 : comK (x :: r) (y :: s) = 0 := by simp [comK, e]
        simp [e1, e]
theorem eq_iff_com (a b : Key) : a = b ↔ comK a b = a.length ∧ comK a b = b.length := by
  constructor
  · rintro rfl
    have : comK a a = a.length := comK_is a a a.length (Nat.le_refl _) (Nat.le_refl _) rfl (fun h => absurd h (Nat.lt_irrefl _))
    exact ⟨this, this⟩
  · rintro ⟨h1, h2⟩
    have := comK_take a b
    rw [List.take_of_length_le (by omega), List.take_of_length_le (by omega)] at this
    exact this

theorem lt_append (a : Key) (c : UInt8) (r : Key) : a < a ++ c :: r := by
  rw [lt_iff_com]
  left
  have : comK a (a ++ c :: r) = a.length := comK_is _ _ _ (Nat.le_refl _) (by simp) (by simp) (fun h => absurd h (Nat.lt_irrefl _))
  rw [this]
  simp
/-- Nothing is between a key and its next one. -/
theorem next_least (a c : Key) (h : a < c) : a ++ [0] ≤ c := by
  induction a generalizing c with
  | nil =>
    cases c with
    | nil => simp at h
    | cons y s =>
      show ¬ (y :: s < [0])
      rw [List.cons_lt_cons_iff]
      rintro (h1 | ⟨_, h2⟩)
      · simp at h1
      · simp at h2
  | cons x r ih =>
    cases c with
    | nil => simp at h
    | cons y s =>
      rw [List.cons_lt_cons_iff] at h
      show ¬ (y :: s < x :: (r ++ [0]))
      rw [List.cons_lt_cons_iff]
      rcases h with h | ⟨rfl, h⟩
      · rintro (h1 | ⟨h1, _⟩)
        · grind
        · grind
      · have := ih s h
        rintro (h1 | ⟨_, h2⟩)
        · grind
        · grind
/-- The shortest beginning of b above a. -/
def midK (a b : Key) : Key := b.take (comK a b + 1)
theorem midK_length (a b : Key) (h : a < b) : (midK a b).length = comK a b + 1 := by
  have : comK a b < b.length := by
    rw [lt_iff_com] at h
    rcases h with ⟨_, h⟩ | ⟨_, h, _⟩ <;> exact h
  simp [midK]; omega
theorem take_le (b : Key) (n : Nat) : b.take n ≤ b := by
  by_cases h : n < b.length
  · have e : b = b.take n ++ b[n] :: b.drop (n + 1) := by rw [← List.drop_eq_getElem_cons h, List.take_append_drop]
    have := lt_append (b.take n) b[n] (b.drop (n + 1))
    rw [← e] at this
    grind
  · rw [List.take_of_length_le (by omega)]
    grind
theorem midK_above (a b : Key) (h : a < b) : a < midK a b := by
  have h' := h
  rw [lt_iff_com] at h
  have hlt : comK a b < b.length := by rcases h with ⟨_, h⟩ | ⟨_, h, _⟩ <;> exact h
  have hl := midK_length a b h'
  have hc : comK a (midK a b) = comK a b := by
    apply comK_is _ _ _ (comK_left a b) (by omega)
    · rw [midK, List.take_take, Nat.min_eq_left (by omega)]; exact comK_take a b
    · intro h1 h2
      have := comK_part a b h1 hlt
      simpa [midK] using this
  rw [lt_iff_com, hc]
  rcases h with ⟨h1, h2⟩ | ⟨h1, h2, h3⟩
  · exact .inl ⟨h1, by omega⟩
  · refine .inr ⟨h1, by omega, ?_⟩
    simpa [midK] using h3
/-- No key above a and not above b is shorter. -/
theorem midK_short (a b c : Key) (h : a < b) (h1 : a < c) (h2 : c ≤ b) : comK a b < c.length := by
  have key : ∀ (a b c : Key), a < c → c ≤ b → a < b → comK a b < c.length := by
    intro a
    induction a with
    | nil => intro b c h1 _ _; cases c with
      | nil => simp at h1
      | cons y s => cases b <;> simp [comK]
    | cons x r ih =>
      intro b c h1 h2 h3
      cases c with
      | nil => simp at h1
      | cons y s =>
        cases b with
        | nil => simp [comK]
        | cons z t =>
          unfold comK
          by_cases e : x = z
          · subst e
            rw [if_pos rfl]
            have h2' : ¬ (x :: t < y :: s) := h2
            rw [List.cons_lt_cons_iff] at h1 h2' h3
            have h3' : r < t := by rcases h3 with h | ⟨_, h⟩; (simp at h); exact h
            have hxy : x = y := by grind
            subst hxy
            have h1' : r < s := by rcases h1 with h | ⟨_, h⟩; (simp at h); exact h
            have := ih t s h1' (by grind) h3'
            simp; omega
          · rw [if_neg e]; simp
  exact key a b c h1 h2 h
theorem midK_less (a b : Key) : (midK a b).take (comK a b) ≤ a := by
  rw [midK, List.take_take, Nat.min_eq_left (by omega), ← comK_take]
  exact take_le a _

/-- A range. -/
structure Rg where
  lo : Key
  hi : Key
  all : Bool
  deriving DecidableEq, Inhabited
namespace Rg
def empty (r : Rg) : Bool := !r.all && decide (r.hi ≤ r.lo)
def has (r : Rg) (k : Key) : Bool := decide (r.lo ≤ k) && (r.all || decide (k < r.hi))
def zero : Rg := ⟨[], [], false⟩
def form (r : Rg) : Rg := if r.empty then zero else if r.all then ⟨r.lo, [], true⟩ else r
def meet0 (a b : Rg) : Rg := ⟨if a.lo < b.lo then b.lo else a.lo, if !b.all && (a.all || decide (b.hi < a.hi)) then b.hi else a.hi, a.all && b.all⟩
def meet (a b : Rg) : Rg := (meet0 a b).form
def inside (a b : Rg) : Bool := a.empty || (decide (b.lo ≤ a.lo) && (b.all || (!a.all && decide (a.hi ≤ b.hi))))
def ahead (a b : Rg) : Rg := if b.empty then a.form else meet a ⟨[], b.lo, false⟩
def behind (a b : Rg) : Rg := if b.empty || b.all then zero else meet a ⟨b.hi, [], true⟩
/-- The law's own 'form'. -/
def formed (r : Rg) : Bool := if r.all then decide (r.hi = []) else (decide (r.lo = []) && decide (r.hi = [])) || decide (r.lo < r.hi)

theorem nil_le (k : Key) : ([] : Key) ≤ k := List.nil_le k
theorem has_form (r : Rg) (k : Key) : r.form.has k = r.has k := by
  have := nil_le k
  unfold form empty has zero
  rcases r with ⟨lo, hi, all⟩
  cases all <;> simp <;> grind
theorem form_formed (r : Rg) : r.form.formed = true := by
  unfold form empty formed zero
  rcases r with ⟨lo, hi, all⟩
  cases all <;> simp <;> grind
theorem has_meet0 (a b : Rg) (k : Key) : (meet0 a b).has k = (a.has k && b.has k) := by
  unfold meet0 has
  rcases a with ⟨lo, hi, all⟩
  rcases b with ⟨lo', hi', all'⟩
  cases all <;> cases all' <;> simp <;> grind
theorem has_meet (a b : Rg) (k : Key) : (meet a b).has k = (a.has k && b.has k) := by rw [meet, has_form, has_meet0]
theorem not_empty (r : Rg) (k : Key) (h : r.has k = true) : r.empty = false := by
  unfold empty; unfold has at h
  rcases r with ⟨lo, hi, all⟩
  cases all <;> simp at h ⊢ <;> grind
theorem has_lo (r : Rg) (h : r.empty = false) : r.has r.lo = true := by
  unfold has; unfold empty at h
  rcases r with ⟨lo, hi, all⟩
  cases all <;> simp at h ⊢ <;> grind
theorem has_parts (a b : Rg) (k : Key) : ((ahead a b).has k || (behind a b).has k) = (a.has k && !b.has k) ∧ ((ahead a b).has k && (behind a b).has k) = false := by
  have hk := nil_le k
  unfold ahead behind
  cases he : b.empty with
  | true =>
    have hb : b.has k = false := by
      cases h : b.has k with
      | false => rfl
      | true => have := not_empty b k h; rw [he] at this; cases this
    simp only [if_true, Bool.true_or, has_form, hb]
    unfold has zero
    simp [hk]
  | false =>
    have hz : zero.has k = false := by simp [has, zero, hk]
    have e1 : (if false = true then a.form else meet a ⟨[], b.lo, false⟩).has k = (a.has k && Rg.has ⟨[], b.lo, false⟩ k) := by rw [if_neg (by simp), has_meet]
    have e2 : (if (false || b.all) = true then zero else meet a ⟨b.hi, [], true⟩).has k = (!b.all && (a.has k && Rg.has ⟨b.hi, [], true⟩ k)) := by
      cases hall : b.all with
      | true => simp [hz]
      | false => simp [has_meet]
    rw [e1, e2]
    unfold empty at he
    rcases b with ⟨lo', hi', all'⟩
    generalize a.has k = x
    cases x <;> cases all' <;> simp [has, hk] at he ⊢ <;> grind
theorem parts_formed (a b : Rg) : (ahead a b).formed = true ∧ (behind a b).formed = true := by
  unfold ahead behind meet
  constructor <;> split <;> first | exact form_formed _ | rfl
theorem form_eq {a b : Rg} (ha : a.formed = true) (hb : b.formed = true) (h : ∀ k, a.has k = b.has k) : a = b := by
  rcases a with ⟨lo, hi, all⟩
  rcases b with ⟨lo', hi', all'⟩
  have h1 := h lo
  have h2 := h lo'
  have h3 := h hi
  have h4 := h hi'
  have n1 := nil_le lo
  have n2 := nil_le lo'
  have n3 := nil_le hi
  have n4 := nil_le hi'
  simp only [has, formed] at *
  cases all <;> cases all' <;> simp at * <;> grind
theorem meet_comm (a b : Rg) : meet a b = meet b a := form_eq (form_formed _) (form_formed _) fun k => by rw [has_meet, has_meet, Bool.and_comm]
theorem inside_has {a b : Rg} (h : inside a b = true) (k : Key) (hk : a.has k = true) : b.has k = true := by
  have := not_empty a k hk
  unfold inside at h
  rw [this] at h
  simp only [Bool.false_or] at h
  unfold has at *
  rcases a with ⟨lo, hi, all⟩
  rcases b with ⟨lo', hi', all'⟩
  cases all <;> cases all' <;> simp at * <;> grind
theorem form_empty (r : Rg) : r.form.empty = r.empty := by
  unfold form
  cases h : r.empty with
  | true => simp [zero, empty]
  | false =>
    unfold empty at *
    rcases r with ⟨lo, hi, all⟩
    cases all <;> simp at * <;> grind
theorem inside_parts (a b : Rg) : inside a b = ((ahead a b).empty && (behind a b).empty) := by
  have n1 := nil_le a.lo
  have n2 := nil_le b.lo
  have n3 := nil_le b.hi
  unfold ahead behind
  cases he : b.empty with
  | true =>
    simp only [if_true, Bool.true_or, form_empty]
    have hz : zero.empty = true := rfl
    rw [hz, Bool.and_true]
    unfold inside
    unfold empty at *
    rcases a with ⟨lo, hi, all⟩
    rcases b with ⟨lo', hi', all'⟩
    cases all <;> cases all' <;> simp at * <;> grind
  | false =>
    have hz : zero.empty = true := rfl
    have e1 : (if false = true then a.form else meet a ⟨[], b.lo, false⟩).empty = (meet0 a ⟨[], b.lo, false⟩).empty := by rw [if_neg (by simp), meet, form_empty]
    have e2 : (if (false || b.all) = true then zero else meet a ⟨b.hi, [], true⟩).empty = (b.all || (meet0 a ⟨b.hi, [], true⟩).empty) := by
      cases hall : b.all with
      | true => simp [hz]
      | false => simp [meet, form_empty]
    rw [e1, e2]
    unfold inside
    rcases a with ⟨lo, hi, all⟩
    rcases b with ⟨lo', hi', all'⟩
    cases all <;> cases all' <;> simp [meet0, empty] at he n1 n2 n3 ⊢ <;> grind
end Rg
end Go.Proofs.Ytgifnaahahfhbaa
