import Derived.Test.YtpmcpomomagkhaaProg
/- Keys and ranges as lists: the order of keys, ranges as sets of keys, one form; lists of ranges put together. -/
namespace Go.Proofs.Ytpmcpomomagkhaa

abbrev Key := List UInt8
/-- Compare's answer. -/
def cmpK (a b : Key) : Int := if a < b then -1 else if b < a then 1 else 0
theorem cmpK_lt {a b : Key} : cmpK a b < 0 ↔ a < b := by unfold cmpK; grind
theorem cmpK_ge {a b : Key} : 0 ≤ cmpK a b ↔ b ≤ a := by unfold cmpK; grind
theorem cmpK_le {a b : Key} : cmpK a b ≤ 0 ↔ a ≤ b := by unfold cmpK; grind
theorem cmpK_gt {a b : Key} : 0 < cmpK a b ↔ b < a := by unfold cmpK; grind
theorem cmpK_eq {a b : Key} : cmpK a b = 0 ↔ a = b := by unfold cmpK; grind
theorem cmpK_neg (a b : Key) : cmpK b a = - cmpK a b := by unfold cmpK; grind
theorem cmpK_three (a b : Key) : cmpK a b = -1 ∨ cmpK a b = 0 ∨ cmpK a b = 1 := by unfold cmpK; grind
theorem cmpK_lt_one {a b : Key} : cmpK a b = -1 ↔ a < b := by unfold cmpK; grind

/-- How many bytes two keys have alike. -/
def comK : Key → Key → Nat
  | a :: r, b :: s => if a = b then comK r s + 1 else 0
  | _, _ => 0
theorem comK_left (a b : Key) : comK a b ≤ a.length := by
  induction a generalizing b with
  | nil => simp [comK]
  | cons x r ih =>
    cases b with
    | nil => simp [comK]
    | cons y s => unfold comK; split <;> simp [ih]
theorem comK_comm (a b : Key) : comK a b = comK b a := by
  induction a generalizing b with
  | nil => cases b <;> simp [comK]
  | cons x r ih =>
    cases b with
    | nil => simp [comK]
    | cons y s => unfold comK; simp only [ih s]; by_cases e : x = y <;> simp [e, eq_comm]
theorem comK_right (a b : Key) : comK a b ≤ b.length := by rw [comK_comm]; exact comK_left b a
theorem comK_take (a b : Key) : a.take (comK a b) = b.take (comK a b) := by
  induction a generalizing b with
  | nil => simp [comK]
  | cons x r ih =>
    cases b with
    | nil => simp [comK]
    | cons y s =>
      unfold comK
      split
      · rename_i e; subst e; simp [ih s]
      · simp
/-- Two keys part where they say. -/
theorem comK_part (a b : Key) (h1 : comK a b < a.length) (h2 : comK a b < b.length) : a[comK a b] ≠ b[comK a b] := by
  induction a generalizing b with
  | nil => simp at h1
  | cons x r ih =>
    cases b with
    | nil => simp at h2
    | cons y s =>
      unfold comK at h1 h2 ⊢
      by_cases e : x = y
      · subst e
        simp only [if_true, List.length_cons, Nat.add_lt_add_iff_right] at h1 h2
        simp only [if_true, List.getElem_cons_succ]
        exact ih s h1 h2
      · simp only [if_neg e, List.getElem_cons_zero]
        exact e
/-- A number below which they are alike, and where they part or one ends. -/
theorem comK_is (a b : Key) (n : Nat) (ha : n ≤ a.length) (hb : n ≤ b.length) (ht : a.take n = b.take n) (h : ∀ (h1 : n < a.length) (h2 : n < b.length), a[n] ≠ b[n]) : comK a b = n := by
  induction a generalizing b n with
  | nil => simp at ha; subst ha; simp [comK]
  | cons x r ih =>
    cases b with
    | nil => simp at hb; subst hb; simp [comK]
    | cons y s =>
      cases n with
      | zero =>
        unfold comK
        rw [if_neg]
        exact h (by simp) (by simp)
      | succ n =>
        simp only [List.take_succ_cons, List.cons.injEq] at ht
        obtain ⟨rfl, ht⟩ := ht
        unfold comK
        rw [if_pos rfl, ih s n (by simpa using ha) (by simpa using hb) ht]
        intro h1 h2
        have := h (by simpa using h1) (by simpa using h2)
        simpa using this
/-- The order, by where two keys part. -/
theorem lt_iff_com (a b : Key) : a < b ↔ (comK a b = a.length ∧ comK a b < b.length) ∨ ∃ (h1 : comK a b < a.length) (h2 : comK a b < b.length), a[comK a b] < b[comK a b] := by
  induction a generalizing b with
  | nil =>
    cases b with
    | nil => simp [comK]
    | cons y s => simp [comK]
  | cons x r ih =>
    cases b with
    | nil => simp [comK]
    | cons y s =>
      rw [List.cons_lt_cons_iff]
      by_cases e : x = y
      · subst e
        have hn : ¬ x < x := by simp
        have e1 : comK (x :: r) (x :: s) = comK r s + 1 := by simp [comK]
        rw [ih s]
        simp only [e1, List.length_cons, Nat.add_right_cancel_iff, Nat.add_lt_add_iff_right, List.getElem_cons_succ, hn, false_or, true_and]
      · have e1 : comK (x :: r) (y :: s) = 0 := by simp [comK, e]
        simp [e1, e]
theorem eq_iff_com (a b : Key) : a = b ↔ comK a b = a.length ∧ comK a b = b.length := by
  constructor
  · rintro rfl
    have : comK a a = a.length := comK_is a a a.length (Nat.le_refl _) (Nat.le_refl _) rfl (fun h => absurd h (Nat.lt_irrefl _))
    exact ⟨this, this⟩
  · rintro ⟨h1, h2⟩
    have := comK_take a b
    rw [List.take_of_length_le (by omega), List.take_of_length_le (by omega)] at this
    exact this

theorem lt_append (a : Key) (c : UInt8) (r : Key) : a < a ++ c :: r := by
  rw [lt_iff_com]
  left
  have : comK a (a ++ c :: r) = a.length := comK_is _ _ _ (Nat.le_refl _) (by simp) (by simp) (fun h => absurd h (Nat.lt_irrefl _))
  rw [this]
  simp
/-- Nothing is between a key and its next one. -/
theorem next_least (a c : Key) (h : a < c) : a ++ [0] ≤ c := by
  induction a generalizing c with
  | nil =>
    cases c with
    | nil => simp at h
    | cons y s =>
      show ¬ (y :: s < [0])
      rw [List.cons_lt_cons_iff]
      rintro (h1 | ⟨_, h2⟩)
      · simp at h1
      · simp at h2
  | cons x r ih =>
    cases c with
    | nil => simp at h
    | cons y s =>
      rw [List.cons_lt_cons_iff] at h
      show ¬ (y :: s < x :: (r ++ [0]))
      rw [List.cons_lt_cons_iff]
      rcases h with h | ⟨rfl, h⟩
      · rintro (h1 | ⟨h1, _⟩)
        · grind
        · grind
      · have := ih s h
        rintro (h1 | ⟨_, h2⟩)
        · grind
        · grind
/-- The shortest beginning of b above a. -/
def midK (a b : Key) : Key := b.take (comK a b + 1)
theorem midK_length (a b : Key) (h : a < b) : (midK a b).length = comK a b + 1 := by
  have : comK a b < b.length := by
    rw [lt_iff_com] at h
    rcases h with ⟨_, h⟩ | ⟨_, h, _⟩ <;> exact h
  simp [midK]; omega
theorem take_le (b : Key) (n : Nat) : b.take n ≤ b := by
  by_cases h : n < b.length
  · have e : b = b.take n ++ b[n] :: b.drop (n + 1) := by rw [← List.drop_eq_getElem_cons h, List.take_append_drop]
    have := lt_append (b.take n) b[n] (b.drop (n + 1))
    rw [← e] at this
    grind
  · rw [List.take_of_length_le (by omega)]
    grind
theorem midK_above (a b : Key) (h : a < b) : a < midK a b := by
  have h' := h
  rw [lt_iff_com] at h
  have hlt : comK a b < b.length := by rcases h with ⟨_, h⟩ | ⟨_, h, _⟩ <;> exact h
  have hl := midK_length a b h'
  have hc : comK a (midK a b) = comK a b := by
    apply comK_is _ _ _ (comK_left a b) (by omega)
    · rw [midK, List.take_take, Nat.min_eq_left (by omega)]; exact comK_take a b
    · intro h1 h2
      have := comK_part a b h1 hlt
      simpa [midK] using this
  rw [lt_iff_com, hc]
  rcases h with ⟨h1, h2⟩ | ⟨h1, h2, h3⟩
  · exact .inl ⟨h1, by omega⟩
  · refine .inr ⟨h1, by omega, ?_⟩
    simpa [midK] using h3
/-- No key above a and not above b is shorter. -/
theorem midK_short (a b c : Key) (h : a < b) (h1 : a < c) (h2 : c ≤ b) : comK a b < c.length := by
  have key : ∀ (a b c : Key), a < c → c ≤ b → a < b → comK a b < c.length := by
    intro a
    induction a with
    | nil => intro b c h1 _ _; cases c with
      | nil => simp at h1
      | cons y s => cases b <;> simp [comK]
    | cons x r ih =>
      intro b c h1 h2 h3
      cases c with
      | nil => simp at h1
      | cons y s =>
        cases b with
        | nil => simp [comK]
        | cons z t =>
          unfold comK
          by_cases e : x = z
          · subst e
            rw [if_pos rfl]
            have h2' : ¬ (x :: t < y :: s) := h2
            rw [List.cons_lt_cons_iff] at h1 h2' h3
            have h3' : r < t := by rcases h3 with h | ⟨_, h⟩; (simp at h); exact h
            have hxy : x = y := by grind
            subst hxy
            have h1' : r < s := by rcases h1 with h | ⟨_, h⟩; (simp at h); exact h
            have := ih t s h1' (by grind) h3'
            simp; omega
          · rw [if_neg e]; simp
  exact key a b c h1 h2 h
theorem midK_less (a b : Key) : (midK a b).take (comK a b) ≤ a := by
  rw [midK, List.take_take, Nat.min_eq_left (by omega), ← comK_take]
  exact take_le a _

/-- A range. -/
structure Rg where
  lo : Key
  hi : Key
  all : Bool
  deriving DecidableEq, Inhabited
namespace Rg
def empty (r : Rg) : Bool := !r.all && decide (r.hi ≤ r.lo)
def has (r : Rg) (k : Key) : Bool := decide (r.lo ≤ k) && (r.all || decide (k < r.hi))
def zero : Rg := ⟨[], [], false⟩
def form (r : Rg) : Rg := if r.empty then zero else if r.all then ⟨r.lo, [], true⟩ else r
def meet0 (a b : Rg) : Rg := ⟨if a.lo < b.lo then b.lo else a.lo, if !b.all && (a.all || decide (b.hi < a.hi)) then b.hi else a.hi, a.all && b.all⟩
def meet (a b : Rg) : Rg := (meet0 a b).form
def inside (a b : Rg) : Bool := a.empty || (decide (b.lo ≤ a.lo) && (b.all || (!a.all && decide (a.hi ≤ b.hi))))
def ahead (a b : Rg) : Rg := if b.empty then a.form else meet a ⟨[], b.lo, false⟩
def behind (a b : Rg) : Rg := if b.empty || b.all then zero else meet a ⟨b.hi, [], true⟩
/-- The law's own 'form'. -/
def formed (r : Rg) : Bool := if r.all then decide (r.hi = []) else (decide (r.lo = []) && decide (r.hi = [])) || decide (r.lo < r.hi)

theorem nil_le (k : Key) : ([] : Key) ≤ k := List.nil_le k
theorem has_form (r : Rg) (k : Key) : r.form.has k = r.has k := by
  have := nil_le k
  unfold form empty has zero
  rcases r with ⟨lo, hi, all⟩
  cases all <;> simp <;> grind
theorem form_formed (r : Rg) : r.form.formed = true := by
  unfold form empty formed zero
  rcases r with ⟨lo, hi, all⟩
  cases all <;> simp <;> grind
theorem has_meet0 (a b : Rg) (k : Key) : (meet0 a b).has k = (a.has k && b.has k) := by
  unfold meet0 has
  rcases a with ⟨lo, hi, all⟩
  rcases b with ⟨lo', hi', all'⟩
  cases all <;> cases all' <;> simp <;> grind
theorem has_meet (a b : Rg) (k : Key) : (meet a b).has k = (a.has k && b.has k) := by rw [meet, has_form, has_meet0]
theorem not_empty (r : Rg) (k : Key) (h : r.has k = true) : r.empty = false := by
  unfold empty; unfold has at h
  rcases r with ⟨lo, hi, all⟩
  cases all <;> simp at h ⊢ <;> grind
theorem has_lo (r : Rg) (h : r.empty = false) : r.has r.lo = true := by
  unfold has; unfold empty at h
  rcases r with ⟨lo, hi, all⟩
  cases all <;> simp at h ⊢ <;> grind
theorem has_parts (a b : Rg) (k : Key) : ((ahead a b).has k || (behind a b).has k) = (a.has k && !b.has k) ∧ ((ahead a b).has k && (behind a b).has k) = false := by
  have hk := nil_le k
  unfold ahead behind
  cases he : b.empty with
  | true =>
    have hb : b.has k = false := by
      cases h : b.has k with
      | false => rfl
      | true => have := not_empty b k h; rw [he] at this; cases this
    simp only [if_true, Bool.true_or, has_form, hb]
    unfold has zero
    simp [hk]
  | false =>
    have hz : zero.has k = false := by simp [has, zero, hk]
    have e1 : (if false = true then a.form else meet a ⟨[], b.lo, false⟩).has k = (a.has k && Rg.has ⟨[], b.lo, false⟩ k) := by rw [if_neg (by simp), has_meet]
    have e2 : (if (false || b.all) = true then zero else meet a ⟨b.hi, [], true⟩).has k = (!b.all && (a.has k && Rg.has ⟨b.hi, [], true⟩ k)) := by
      cases hall : b.all with
      | true => simp [hz]
      | false => simp [has_meet]
    rw [e1, e2]
    unfold empty at he
    rcases b with ⟨lo', hi', all'⟩
    generalize a.has k = x
    cases x <;> cases all' <;> simp [has, hk] at he ⊢ <;> grind
theorem parts_formed (a b : Rg) : (ahead a b).formed = true ∧ (behind a b).formed = true := by
  unfold ahead behind meet
  constructor <;> split <;> first | exact form_formed _ | rfl
theorem form_eq {a b : Rg} (ha : a.formed = true) (hb : b.formed = true) (h : ∀ k, a.has k = b.has k) : a = b := by
  rcases a with ⟨lo, hi, all⟩
  rcases b with ⟨lo', hi', all'⟩
  have h1 := h lo
  have h2 := h lo'
  have h3 := h hi
  have h4 := h hi'
  have n1 := nil_le lo
  have n2 := nil_le lo'
  have n3 := nil_le hi
  have n4 := nil_le hi'
  simp only [has, formed] at *
  cases all <;> cases all' <;> simp at * <;> grind
theorem meet_comm (a b : Rg) : meet a b = meet b a := form_eq (form_formed _) (form_formed _) fun k => by rw [has_meet, has_meet, Bool.and_comm]
theorem inside_has {a b : Rg} (h : inside a b = true) (k : Key) (hk : a.has k = true) : b.has k = true := by
  have := not_empty a k hk
  unfold inside at h
  rw [this] at h
  simp only [Bool.false_or] at h
  unfold has at *
  rcases a with ⟨lo, hi, all⟩
  rcases b with ⟨lo', hi', all'⟩
  cases all <;> cases all' <;> simp at * <;> grind
theorem form_empty (r : Rg) : r.form.empty = r.empty := by
  unfold form
  cases h : r.empty with
  | true => simp [zero, empty]
  | false =>
    unfold empty at *
    rcases r with ⟨lo, hi, all⟩
    cases all <;> simp at * <;> grind
theorem inside_parts (a b : Rg) : inside a b = ((ahead a b).empty && (behind a b).empty) := by
  have n1 := nil_le a.lo
  have n2 := nil_le b.lo
  have n3 := nil_le b.hi
  unfold ahead behind
  cases he : b.empty with
  | true =>
    simp only [if_true, Bool.true_or, form_empty]
    have hz : zero.empty = true := rfl
    rw [hz, Bool.and_true]
    unfold inside
    unfold empty at *
    rcases a with ⟨lo, hi, all⟩
    rcases b with ⟨lo', hi', all'⟩
    cases all <;> cases all' <;> simp at * <;> grind
  | false =>
    have hz : zero.empty = true := rfl
    have e1 : (if false = true then a.form else meet a ⟨[], b.lo, false⟩).empty = (meet0 a ⟨[], b.lo, false⟩).empty := by rw [if_neg (by simp), meet, form_empty]
    have e2 : (if (false || b.all) = true then zero else meet a ⟨b.hi, [], true⟩).empty = (b.all || (meet0 a ⟨b.hi, [], true⟩).empty) := by
      cases hall : b.all with
      | true => simp [hz]
      | false => simp [meet, form_empty]
    rw [e1, e2]
    unfold inside
    rcases a with ⟨lo, hi, all⟩
    rcases b with ⟨lo', hi', all'⟩
    cases all <;> cases all' <;> simp [meet0, empty] at he n1 n2 n3 ⊢ <;> grind
end Rg
end Go.Proofs.Ytpmcpomomagkhaa

/- Messages as lists: what they say, which one decides a key, where what is said may change. -/
namespace Go.Proofs.Ytpmcpomomagkhaa

/-- A message. -/
structure Ms where
  st : Nat
  kd : Int
  lo : Key
  hi : Key
  va : Key
  deriving DecidableEq, Inhabited
namespace Ms
/-- The keys of which it says something. -/
def rg (m : Ms) : Rg := if m.kd = 1 ∨ m.kd = 2 then ⟨m.lo, m.lo ++ [0], false⟩ else if m.kd = 3 then ⟨m.lo, m.hi, false⟩ else Rg.zero
def says (m : Ms) (k : Key) : Bool := m.rg.has k
theorem rg_all (m : Ms) : m.rg.all = false := by
  unfold rg
  split
  · rfl
  · split <;> rfl
theorem just_has (a k : Key) : Rg.has ⟨a, a ++ [0], false⟩ k = decide (a = k) := by
  have h1 := lt_append a 0 []
  have h2 := next_least a k
  unfold Rg.has
  by_cases h : a = k
  · subst h; simp; grind
  · simp only [h, decide_false, Bool.false_or, Bool.and_eq_false_iff, decide_eq_false_iff_not]
    by_cases h4 : a < k
    · right; have := h2 h4; grind
    · left; grind
theorem says_one (m : Ms) (k : Key) (h : m.kd = 1 ∨ m.kd = 2) : m.says k = decide (m.lo = k) := by
  unfold says rg; rw [if_pos h, just_has]
theorem says_range (m : Ms) (k : Key) (h : m.kd = 3) : m.says k = (decide (m.lo ≤ k) && decide (k < m.hi)) := by
  unfold says rg; rw [if_neg (by omega), if_pos h]; simp [Rg.has]
theorem zero_has (k : Key) : Rg.zero.has k = false := by
  simp [Rg.has, Rg.zero]
theorem says_none (m : Ms) (k : Key) (h : ¬ (m.kd = 1 ∨ m.kd = 2)) (h3 : m.kd ≠ 3) : m.says k = false := by
  unfold says rg; rw [if_neg h, if_neg h3, zero_has]
end Ms

/-- Which message is the last that says something of a key (-1: none). -/
def lastM : List Ms → Key → Int
  | [], _ => -1
  | m :: r, k => if 0 ≤ lastM r k then lastM r k + 1 else if m.says k then 0 else -1
def lastD (M : List Ms) (i : Nat) (k : Key) : Int := if 0 ≤ lastM (M.drop i) k then lastM (M.drop i) k + i else -1
theorem lastM_ge (M : List Ms) (k : Key) : -1 ≤ lastM M k := by
  induction M with
  | nil => simp [lastM]
  | cons m r ih =>
    unfold lastM
    split
    · omega
    · split <;> omega
theorem lastM_neg {M : List Ms} {k : Key} : lastM M k < 0 ↔ lastM M k = -1 := by have := lastM_ge M k; omega
theorem lastD_zero (M : List Ms) (k : Key) : lastD M 0 k = lastM M k := by
  have := lastM_ge M k
  unfold lastD; simp only [List.drop_zero]; split <;> omega
theorem lastD_end (M : List Ms) (k : Key) (i : Nat) (h : M.length ≤ i) : lastD M i k = -1 := by
  unfold lastD; rw [List.drop_of_length_le h]; simp [lastM]
theorem lastD_step (M : List Ms) (k : Key) (i : Nat) (m : Ms) (h : M[i]? = some m) : lastD M i k = if 0 ≤ lastD M (i + 1) k then lastD M (i + 1) k else if m.says k then (i : Int) else -1 := by
  obtain ⟨h1, rfl⟩ := List.getElem?_eq_some_iff.1 h
  have := lastM_ge (M.drop (i + 1)) k
  unfold lastD
  rw [List.drop_eq_getElem_cons h1]
  simp only [lastM]
  split <;> split <;> split <;> (try split) <;> (try split) <;> (try simp_all) <;> omega
theorem lastM_none {M : List Ms} {k : Key} (h : lastM M k < 0) : ∀ m ∈ M, m.says k = false := by
  induction M with
  | nil => intro m hm; simp at hm
  | cons a r ih =>
    unfold lastM at h
    split at h
    · omega
    · split at h
      · omega
      · rename_i h1 h2
        intro m hm
        rcases List.mem_cons.1 hm with rfl | hm
        · simpa using h2
        · exact ih (by omega) m hm
theorem lastM_some {M : List Ms} {k : Key} (h : 0 ≤ lastM M k) : ∃ (i : Nat) (m : Ms), lastM M k = i ∧ M[i]? = some m ∧ m.says k = true ∧ ∀ j x, i < j → M[j]? = some x → x.says k = false := by
  induction M with
  | nil => simp [lastM] at h
  | cons a r ih =>
    unfold lastM at h ⊢
    by_cases h0 : 0 ≤ lastM r k
    · obtain ⟨i, m, h1, h2, h3, h4⟩ := ih h0
      rw [if_pos h0, h1]
      refine ⟨i + 1, m, by simp, by simpa using h2, h3, fun j x hj hx => ?_⟩
      cases j with
      | zero => omega
      | succ j => exact h4 j x (by omega) (by simpa using hx)
    · rw [if_neg h0] at h ⊢
      split at h
      · rename_i h1
        rw [if_pos h1]
        refine ⟨0, a, rfl, rfl, h1, fun j x hj hx => ?_⟩
        cases j with
        | zero => omega
        | succ j => exact lastM_none (M := r) (by omega) x (List.mem_of_getElem? (i := j) (by simpa using hx))
      · omega
/-- What is said of a key hangs on what each message says of it alone. -/
theorem lastM_congr {M : List Ms} {k k' : Key} (h : ∀ m ∈ M, m.says k = m.says k') : lastM M k = lastM M k' := by
  induction M with
  | nil => rfl
  | cons a r ih =>
    unfold lastM
    rw [ih fun m hm => h m (List.mem_cons_of_mem _ hm), h a (List.mem_cons_self ..)]
theorem lastM_lt (M : List Ms) (k : Key) : lastM M k < M.length := by
  by_cases h : 0 ≤ lastM M k
  · obtain ⟨i, m, h1, h2, _⟩ := lastM_some h
    have := (List.getElem?_eq_some_iff.1 h2).1
    omega
  · omega

/-- Where what is said may change. -/
structure IsCuts (M : List Ms) (C : List Key) : Prop where
  rise : C.Pairwise (· < ·)
  mem : ∀ k, k ∈ C ↔ ∃ m ∈ M, m.rg.empty = false ∧ (k = m.rg.lo ∨ k = m.rg.hi)
theorem rise_unique {a b : List Key} (ha : a.Pairwise (· < ·)) (hb : b.Pairwise (· < ·)) (h : ∀ k, k ∈ a ↔ k ∈ b) : a = b := by
  induction a generalizing b with
  | nil =>
    cases b with
    | nil => rfl
    | cons y s => have := (h y).2 (List.mem_cons_self ..); simp at this
  | cons x r ih =>
    cases b with
    | nil => have := (h x).1 (List.mem_cons_self ..); simp at this
    | cons y s =>
      rw [List.pairwise_cons] at ha hb
      have hxy : x = y := by
        rcases List.mem_cons.1 ((h x).1 (List.mem_cons_self ..)) with e | e
        · exact e
        · rcases List.mem_cons.1 ((h y).2 (List.mem_cons_self ..)) with e' | e'
          · exact e'.symm
          · have := ha.1 y e'; have := hb.1 x e; grind
      subst hxy
      rw [ih ha.2 hb.2]
      intro k
      constructor
      · intro hk
        rcases List.mem_cons.1 ((h k).1 (List.mem_cons_of_mem _ hk)) with rfl | e
        · have := ha.1 k hk; grind
        · exact e
      · intro hk
        rcases List.mem_cons.1 ((h k).2 (List.mem_cons_of_mem _ hk)) with rfl | e
        · have := hb.1 k hk; grind
        · exact e
theorem IsCuts.unique {M : List Ms} {C D : List Key} (h : IsCuts M C) (h' : IsCuts M D) : C = D := rise_unique h.rise h'.rise fun k => by rw [h.mem, h'.mem]
theorem IsCuts.lt {M : List Ms} {C : List Key} (h : IsCuts M C) {i j : Nat} {a b : Key} (hij : i < j) (hi : C[i]? = some a) (hj : C[j]? = some b) : a < b := by
  obtain ⟨h1, rfl⟩ := List.getElem?_eq_some_iff.1 hi
  obtain ⟨h2, rfl⟩ := List.getElem?_eq_some_iff.1 hj
  exact List.pairwise_iff_getElem.1 h.rise i j h1 h2 hij
/-- Behind the last cut nothing is said. -/
theorem IsCuts.last {M : List Ms} {C : List Key} (h : IsCuts M C) {i : Nat} {a : Key} (hi : C[i]? = some a) (hs : 0 ≤ lastM M a) : i + 1 < C.length := by
  obtain ⟨n, m, _, h2, h3, _⟩ := lastM_some hs
  have he : m.rg.empty = false := Rg.not_empty _ _ h3
  have hm : m.rg.hi ∈ C := (h.mem _).2 ⟨m, List.mem_of_getElem? h2, he, .inr rfl⟩
  obtain ⟨j, hj⟩ := List.getElem?_of_mem hm
  have h4 : a < m.rg.hi := by
    unfold Ms.says Rg.has at h3
    rw [m.rg_all] at h3
    simpa using (Bool.and_eq_true_iff.1 h3).2
  have hl := (List.getElem?_eq_some_iff.1 hj).1
  rcases Nat.lt_trichotomy i j with h5 | h5 | h5
  · omega
  · subst h5; rw [hi] at hj; cases hj; grind
  · have := h.lt h5 hj hi; grind
/-- Between two cuts each message says of all keys the same. -/
theorem IsCuts.between {M : List Ms} {C : List Key} (h : IsCuts M C) {i : Nat} {a k : Key} (hi : C[i]? = some a) (h1 : a ≤ k) (h2 : ∀ b, C[i + 1]? = some b → k < b) (m : Ms) (hm : m ∈ M) : m.says k = m.says a := by
  unfold Ms.says Rg.has
  rw [m.rg_all]
  by_cases he : m.rg.empty = true
  · have : m.rg.hi ≤ m.rg.lo := by unfold Rg.empty at he; rw [m.rg_all] at he; simpa using he
    by_cases h3 : m.rg.lo ≤ k <;> by_cases h4 : m.rg.lo ≤ a <;> simp [h3, h4] <;> grind
  · have he' : m.rg.empty = false := by simpa using he
    obtain ⟨x, hx⟩ := List.getElem?_of_mem ((h.mem _).2 ⟨m, hm, he', .inl rfl⟩)
    obtain ⟨y, hy⟩ := List.getElem?_of_mem ((h.mem _).2 ⟨m, hm, he', .inr rfl⟩)
    have hX : m.rg.lo ≤ k ↔ m.rg.lo ≤ a := by
      constructor
      · intro h3
        rcases Nat.lt_trichotomy x i with h4 | h4 | h4
        · have := h.lt h4 hx hi; grind
        · subst h4; rw [hi] at hx; cases hx; grind
        · obtain ⟨b, hb⟩ : ∃ b, C[i + 1]? = some b := ⟨_, List.getElem?_eq_getElem (by have := (List.getElem?_eq_some_iff.1 hx).1; omega)⟩
          have h5 := h2 b hb
          rcases Nat.lt_or_ge (i + 1) x with h6 | h6
          · have := h.lt h6 hb hx; grind
          · have : x = i + 1 := by omega
            subst this; rw [hb] at hx; cases hx; grind
      · intro h3; grind
    have hY : k < m.rg.hi ↔ a < m.rg.hi := by
      constructor
      · intro h3; grind
      · intro h3
        rcases Nat.lt_trichotomy y i with h4 | h4 | h4
        · have := h.lt h4 hy hi; grind
        · subst h4; rw [hi] at hy; cases hy; grind
        · obtain ⟨b, hb⟩ : ∃ b, C[i + 1]? = some b := ⟨_, List.getElem?_eq_getElem (by have := (List.getElem?_eq_some_iff.1 hy).1; omega)⟩
          have h5 := h2 b hb
          rcases Nat.lt_or_ge (i + 1) y with h6 | h6
          · have := h.lt h6 hb hy; grind
          · have : y = i + 1 := by omega
            subst this; rw [hb] at hy; cases hy; exact h5
    simp only [hX, hY]
/-- Ahead of the first cut nothing is said. -/
theorem IsCuts.ahead {M : List Ms} {C : List Key} (h : IsCuts M C) {k : Key} (hk : ∀ a, C[0]? = some a → k < a) (m : Ms) (hm : m ∈ M) : m.says k = false := by
  cases hs : m.says k with
  | false => rfl
  | true =>
    have he : m.rg.empty = false := Rg.not_empty _ _ hs
    obtain ⟨x, hx⟩ := List.getElem?_of_mem ((h.mem _).2 ⟨m, hm, he, .inl rfl⟩)
    have h1 : m.rg.lo ≤ k := by
      unfold Ms.says Rg.has at hs
      simpa using (Bool.and_eq_true_iff.1 hs).1
    obtain ⟨a, ha⟩ : ∃ a, C[0]? = some a := ⟨_, List.getElem?_eq_getElem (by have := (List.getElem?_eq_some_iff.1 hx).1; omega)⟩
    have h2 := hk a ha
    rcases Nat.eq_zero_or_pos x with rfl | h3
    · rw [ha] at hx; cases hx; grind
    · have := h.lt h3 ha hx; grind
end Go.Proofs.Ytpmcpomomagkhaa

/- Places that are open or shut; what one message more decides. -/
namespace Go.Proofs.Ytpmcpomomagkhaa

/-- Places: each open one leads to itself, a shut one to a greater one, those between are shut. -/
structure Pl (n : Nat) (sh : Nat → Prop) (P : List Nat) : Prop where
  len : P.length = n + 1
  last : ¬ sh n
  op : ∀ a, a ≤ n → ¬ sh a → P[a]? = some a
  shut : ∀ a q, a ≤ n → sh a → P[a]? = some q → a < q ∧ q ≤ n ∧ ∀ b, a ≤ b → b < q → sh b
theorem Pl.get {n : Nat} {sh : Nat → Prop} {P : List Nat} (h : Pl n sh P) (a : Nat) (ha : a ≤ n) : ∃ q, P[a]? = some q ∧ a ≤ q ∧ q ≤ n ∧ (q = a ↔ ¬ sh a) := by
  obtain ⟨q, hq⟩ : ∃ q, P[a]? = some q := ⟨_, List.getElem?_eq_getElem (by rw [h.len]; omega)⟩
  refine ⟨q, hq, ?_⟩
  by_cases hs : sh a
  · obtain ⟨h1, h2, h3⟩ := h.shut a q ha hs hq
    exact ⟨by omega, h2, ⟨fun e => by omega, fun e => absurd hs e⟩⟩
  · have := h.op a ha hs
    rw [hq] at this
    cases this
    exact ⟨Nat.le_refl _, ha, ⟨fun _ => hs, fun _ => rfl⟩⟩
theorem Pl.short {n : Nat} {sh : Nat → Prop} {P : List Nat} (h : Pl n sh P) {a q r : Nat} (ha : a ≤ n) (hq : P[a]? = some q) (hne : q ≠ a) (hr : P[q]? = some r) : Pl n sh (P.set a r) ∧ a < r ∧ r ≤ n ∧ ∀ b, a ≤ b → b < r → sh b := by
  obtain ⟨q', e1, _, h1, h2⟩ := h.get a ha
  rw [hq] at e1; cases e1
  have hs : sh a := Classical.byContradiction fun hn => hne (h2.2 hn)
  obtain ⟨h3, h4, h5⟩ := h.shut a q ha hs hq
  have key : q ≤ r ∧ r ≤ n ∧ ∀ b, a ≤ b → b < r → sh b := by
    by_cases hsq : sh q
    · obtain ⟨k1, k2, k3⟩ := h.shut q r h4 hsq hr
      exact ⟨by omega, k2, fun b hb1 hb2 => (Nat.lt_or_ge b q).elim (h5 b hb1) (fun h => k3 b h hb2)⟩
    · have := h.op q h4 hsq
      rw [hr] at this; cases this
      exact ⟨Nat.le_refl _, h4, h5⟩
  obtain ⟨k1, k2, k3⟩ := key
  refine ⟨⟨by rw [List.length_set, h.len], h.last, fun b hb hn => ?_, fun b x hb hsb hx => ?_⟩, by omega, k2, k3⟩
  · rw [List.getElem?_set_ne (by rintro rfl; exact hn hs)]
    exact h.op b hb hn
  · by_cases e : a = b
    · subst e
      rw [List.getElem?_set_self (by rw [h.len]; omega)] at hx
      cases hx
      exact ⟨by omega, k2, k3⟩
    · rw [List.getElem?_set_ne e] at hx
      exact h.shut b x hb hsb hx
theorem Pl.close {n : Nat} {sh sh' : Nat → Prop} {P : List Nat} (h : Pl n sh P) {a : Nat} (ha : a < n) (hs : ∀ b, sh' b ↔ sh b ∨ b = a) : Pl n sh' (P.set a (a + 1)) := by
  refine ⟨by rw [List.length_set, h.len], fun e => ?_, fun b hb hn => ?_, fun b x hb hsb hx => ?_⟩
  · rcases (hs n).1 e with h1 | h1
    · exact h.last h1
    · omega
  · have h1 : ¬ sh b ∧ b ≠ a := by rw [hs] at hn; exact not_or.1 hn
    rw [List.getElem?_set_ne (fun e => h1.2 e.symm)]
    exact h.op b hb h1.1
  · by_cases e : a = b
    · subst e
      rw [List.getElem?_set_self (by rw [h.len]; omega)] at hx
      cases hx
      exact ⟨by omega, by omega, fun c h1 h2 => (hs c).2 (.inr (by omega))⟩
    · rw [List.getElem?_set_ne e] at hx
      rcases (hs b).1 hsb with h1 | h1
      · obtain ⟨k1, k2, k3⟩ := h.shut b x hb h1 hx
        exact ⟨k1, k2, fun c h1 h2 => (hs c).2 (.inl (k3 c h1 h2))⟩
      · exact absurd h1.symm e
theorem Pl.start (n : Nat) : Pl n (fun _ => False) (List.range (n + 1)) :=
  ⟨by simp, fun h => h, fun a ha _ => by rw [List.getElem?_range (by omega)], fun a q _ h => h.elim⟩

/-- What is decided by one message more. -/
def fillL (S : List Int) (f t : Nat) (i : Int) : List Int := S.mapIdx fun b x => if f ≤ b ∧ b < t ∧ x < 0 then i else x
theorem fillL_length (S : List Int) (f t : Nat) (i : Int) : (fillL S f t i).length = S.length := by simp [fillL]
theorem fillL_get (S : List Int) (f t : Nat) (i : Int) (b : Nat) : (fillL S f t i)[b]? = S[b]?.map fun x => if f ≤ b ∧ b < t ∧ x < 0 then i else x := by
  unfold fillL; rw [List.getElem?_mapIdx]
theorem fillL_none (S : List Int) (f t : Nat) (i : Int) (h : ∀ b x, f ≤ b → b < t → S[b]? = some x → 0 ≤ x) : fillL S f t i = S := by
  apply List.ext_getElem?
  intro b
  rw [fillL_get]
  cases hb : S[b]? with
  | none => rfl
  | some x =>
    simp only [Option.map_some, Option.some.injEq]
    rw [if_neg]
    rintro ⟨h1, h2, h3⟩
    have := h b x h1 h2 hb
    omega
theorem fillL_step (S : List Int) (f a t : Nat) (i : Int) (h1 : f ≤ a) (h2 : a < t) {x : Int} (hx : S[a]? = some x) (hx0 : x < 0) (h : ∀ b y, a < b → b < t → S[b]? = some y → 0 ≤ y) : fillL S f t i = (fillL S f a i).set a i := by
  apply List.ext_getElem?
  intro b
  have ha := (List.getElem?_eq_some_iff.1 hx).1
  by_cases e : a = b
  · subst e
    rw [List.getElem?_set_self (by rw [fillL_length]; exact ha), fillL_get, hx]
    simp only [Option.map_some, Option.some.injEq]
    rw [if_pos ⟨h1, h2, hx0⟩]
  · rw [List.getElem?_set_ne e, fillL_get, fillL_get]
    cases hb : S[b]? with
    | none => rfl
    | some y =>
      simp only [Option.map_some, Option.some.injEq]
      by_cases h3 : b < a
      · by_cases h4 : f ≤ b ∧ y < 0
        · rw [if_pos ⟨h4.1, by omega, h4.2⟩, if_pos ⟨h4.1, h3, h4.2⟩]
        · rw [if_neg (fun h => h4 ⟨h.1, h.2.2⟩), if_neg (fun h => h4 ⟨h.1, h.2.2⟩)]
      · rw [if_neg (fun k => by have := h b y (by omega) k.2.1 hb; omega), if_neg (fun k => by omega)]
theorem fillL_last {M : List Ms} {C : List Key} {i f t : Nat} {m : Ms} (hm : M[i]? = some m) (hf : ∀ b k, C[b]? = some k → (m.says k = true ↔ f ≤ b ∧ b < t)) : fillL (C.map (lastD M (i + 1))) f t i = C.map (lastD M i) := by
  apply List.ext_getElem?
  intro b
  rw [fillL_get, List.getElem?_map, List.getElem?_map]
  cases hb : C[b]? with
  | none => rfl
  | some k =>
    simp only [Option.map_some, Option.some.injEq]
    rw [lastD_step M k i m hm]
    have h1 := hf b k hb
    have h2 : lastD M (i + 1) k < 0 → lastD M (i + 1) k = -1 := by
      intro h
      unfold lastD at h ⊢
      split at h
      · omega
      · rename_i h3; rw [if_neg h3]
    by_cases h0 : 0 ≤ lastD M (i + 1) k
    · rw [if_neg (by omega), if_pos h0]
    · rw [if_neg h0]
      by_cases h3 : m.says k = true
      · rw [if_pos h3, if_pos ⟨(h1.1 h3).1, (h1.1 h3).2, by omega⟩]
      · rw [if_neg h3, if_neg (fun h => h3 (h1.2 ⟨h.1, h.2.1⟩)), h2 (by omega)]
/-- Where a key stands among keys that rise. -/
structure Place (C : List Key) (k : Key) (p : Nat) : Prop where
  le : p ≤ C.length
  lt : ∀ i e, i < p → C[i]? = some e → e < k
  ge : ∀ i e, p ≤ i → C[i]? = some e → ¬ e < k
theorem Place.says {C : List Key} {m : Ms} {f t : Nat} (hf : Place C m.rg.lo f) (ht : Place C m.rg.hi t) (b : Nat) (k : Key) (hb : C[b]? = some k) : m.says k = true ↔ f ≤ b ∧ b < t := by
  unfold Ms.says Rg.has
  rw [m.rg_all]
  simp only [Bool.false_or, Bool.and_eq_true, decide_eq_true_eq]
  constructor
  · rintro ⟨h1, h2⟩
    refine ⟨?_, ?_⟩
    · rcases Nat.lt_or_ge b f with h | h
      · have := hf.lt b k h hb; grind
      · exact h
    · rcases Nat.lt_or_ge b t with h | h
      · exact h
      · exact absurd h2 (ht.ge b k h hb)
  · rintro ⟨h1, h2⟩
    have h3 := hf.ge b k h1 hb
    exact ⟨by grind, ht.lt b k h2 hb⟩
theorem last_start (M : List Ms) (C : List Key) : List.replicate C.length (-1 : Int) = C.map (lastD M M.length) := by
  apply List.ext_getElem?
  intro b
  rw [List.getElem?_replicate, List.getElem?_map]
  split
  · rename_i h
    rw [List.getElem?_eq_getElem h, Option.map_some, lastD_end _ _ _ (Nat.le_refl _)]
  · rw [List.getElem?_eq_none (by omega)]; rfl
theorem last_end (M : List Ms) (C : List Key) : C.map (lastD M 0) = C.map (lastM M) := by
  congr 1; funext k; exact lastD_zero M k
/-- The ends of what messages say. -/
def endsM (M : List Ms) : List Key := M.flatMap fun m => if m.rg.empty then [] else [m.rg.lo, m.rg.hi]
theorem endsM_mem (M : List Ms) (k : Key) : k ∈ endsM M ↔ ∃ m ∈ M, m.rg.empty = false ∧ (k = m.rg.lo ∨ k = m.rg.hi) := by
  unfold endsM
  rw [List.mem_flatMap]
  constructor
  · rintro ⟨m, hm, h⟩
    split at h
    · simp at h
    · rename_i he; exact ⟨m, hm, by simpa using he, by simpa using h⟩
  · rintro ⟨m, hm, he, h⟩
    exact ⟨m, hm, by rw [if_neg (by simp [he])]; simpa using h⟩
/-- Keys of which neighbours that are one are left out. -/
def compK : List Key → List Key
  | [] => []
  | [a] => [a]
  | a :: b :: r => if b = a then compK (a :: r) else a :: compK (b :: r)
termination_by l => l.length
theorem isCuts_of {M : List Ms} {C : List Key} (hr : C.Pairwise (· < ·)) (hm : ∀ k, k ∈ C ↔ k ∈ endsM M) : IsCuts M C := ⟨hr, fun k => by rw [hm, endsM_mem]⟩
end Go.Proofs.Ytpmcpomomagkhaa

/- Pieces on lists: they say of each key what the messages do. -/
namespace Go.Proofs.Ytpmcpomomagkhaa

/-- A piece. -/
structure Pc where
  put : Bool
  k : Key
  v : Key
  lo : Key
  hi : Key
  deriving DecidableEq, Inhabited
namespace Pc
def says (p : Pc) (k : Key) : Bool := if p.put then decide (p.k = k) else decide (p.lo ≤ k) && decide (k < p.hi)
def beg (p : Pc) : Key := if p.put then p.k else p.lo
def fin (p : Pc) : Key := if p.put then p.k ++ [0] else p.hi
structure Wf (p : Pc) : Prop where
  put : p.put = true → p.lo = [] ∧ p.hi = []
  gone : p.put = false → p.k = [] ∧ p.v = [] ∧ p.lo < p.hi
theorem says_iff (p : Pc) (k : Key) : p.says k = true ↔ p.beg ≤ k ∧ k < p.fin := by
  unfold says beg fin
  cases p.put with
  | true =>
    simp only [if_true]
    rw [← Ms.just_has]
    simp [Rg.has]
  | false => simp
theorem Wf.lt {p : Pc} (h : p.Wf) : p.beg < p.fin := by
  unfold beg fin
  cases hp : p.put with
  | true => simp only [if_true]; exact lt_append _ _ _
  | false => simpa using (h.gone hp).2.2
end Pc
def goneB (l : List Pc) (a b : Key) : List Pc :=
  match l.getLast? with
  | some p => if p.put = false ∧ p.hi = a then l.dropLast ++ [⟨false, p.k, p.v, p.lo, b⟩] else l ++ [⟨false, [], [], a, b⟩]
  | none => l ++ [⟨false, [], [], a, b⟩]
/-- The message that decides a key. -/
def decM (M : List Ms) (k : Key) : Option Ms := if lastM M k < 0 then none else M[(lastM M k).toNat]?
def getM (M : List Ms) (k : Key) : Option (Option Key) := (decM M k).map fun m => if m.kd = 1 then some m.va else none
def stepP (M : List Ms) (C : List Key) (l : List Pc) (n : Nat) : List Pc :=
  match C[n]? with
  | none => l
  | some a => match decM M a with
    | none => l
    | some m => if m.kd = 1 then l ++ [⟨true, a, m.va, [], []⟩] else goneB l a (C[n + 1]?.getD [])
def piecesN (M : List Ms) (C : List Key) : Nat → List Pc
  | 0 => []
  | n + 1 => stepP M C (piecesN M C n) n
def piecesM (M : List Ms) (C : List Key) : List Pc := piecesN M C C.length
theorem decM_none {M : List Ms} {k : Key} : decM M k = none ↔ lastM M k < 0 := by
  unfold decM
  split
  · simp [*]
  · rename_i h
    have := lastM_lt M k
    rw [List.getElem?_eq_none_iff]
    omega
theorem decM_some {M : List Ms} {k : Key} {m : Ms} (h : decM M k = some m) : 0 ≤ lastM M k ∧ m.says k = true ∧ m ∈ M := by
  unfold decM at h
  split at h
  · cases h
  · rename_i h0
    obtain ⟨i, m', h1, h2, h3, _⟩ := lastM_some (M := M) (k := k) (by omega)
    rw [h1] at h
    have : ((i : Int)).toNat = i := by omega
    rw [this, h2] at h
    cases h
    exact ⟨by omega, h3, List.mem_of_getElem? h2⟩
theorem decM_congr {M : List Ms} {k k' : Key} (h : ∀ m ∈ M, m.says k = m.says k') : decM M k = decM M k' := by
  unfold decM; rw [lastM_congr h]

structure PInv (M : List Ms) (C : List Key) (n : Nat) (l : List Pc) : Prop where
  wf : ∀ p ∈ l, p.Wf
  rise : l.Pairwise fun p q => p.fin ≤ q.beg ∧ (p.put = false → q.put = false → p.fin ≠ q.beg)
  upto : ∀ p ∈ l, ∀ c, C[n]? = some c → p.fin ≤ c
  hit : ∀ k, (∀ c, C[n]? = some c → k < c) → ∀ m, decM M k = some m → ∃ p ∈ l, p.says k = true
  is : ∀ k p, p ∈ l → p.says k = true → getM M k = some (if p.put then some p.v else none)
theorem PInv.zero {M : List Ms} {C : List Key} (h : IsCuts M C) : PInv M C 0 [] := by
  refine ⟨fun p hp => by simp at hp, by simp, fun p hp => by simp at hp, fun k hk m hm => ?_, fun k p hp => by simp at hp⟩
  obtain ⟨_, h1, h2⟩ := decM_some hm
  rw [h.ahead hk m h2] at h1
  cases h1
theorem getLast_eq {l : List Pc} {p : Pc} (h : l.getLast? = some p) : l = l.dropLast ++ [p] := by
  obtain ⟨ys, rfl⟩ := List.getLast?_eq_some_iff.1 h
  simp
theorem PInv.step {M : List Ms} {C : List Key} {n : Nat} {l : List Pc} (hC : IsCuts M C) (h : PInv M C n l) (hn : n < C.length) : PInv M C (n + 1) (stepP M C l n) := by
  obtain ⟨a, ha⟩ : ∃ a, C[n]? = some a := ⟨_, List.getElem?_eq_getElem hn⟩
  have hnext : ∀ b, C[n + 1]? = some b → a < b := fun b hb => hC.lt (by omega) ha hb
  have hup : ∀ p ∈ l, p.fin ≤ a := fun p hp => h.upto p hp a ha
  have hbtw : ∀ k, a ≤ k → (∀ b, C[n + 1]? = some b → k < b) → decM M k = decM M a := fun k h1 h2 => decM_congr fun m hm => hC.between ha h1 h2 m hm
  unfold stepP
  rw [ha]
  simp only
  cases hd : decM M a with
  | none =>
    simp only
    refine ⟨h.wf, h.rise, fun p hp c hc => ?_, fun k hk m hm => ?_, h.is⟩
    · have := hup p hp; have := hnext c hc; grind
    · by_cases h1 : k < a
      · exact h.hit k (fun c hc => by rw [ha] at hc; cases hc; exact h1) m hm
      · rw [hbtw k (by grind) hk, hd] at hm; cases hm
  | some m =>
    simp only
    obtain ⟨h0, hs, hmM⟩ := decM_some hd
    have hnl := hC.last ha h0
    obtain ⟨b, hb⟩ : ∃ b, C[n + 1]? = some b := ⟨_, List.getElem?_eq_getElem hnl⟩
    have hab := hnext b hb
    have hg : ∀ k, a ≤ k → k < b → getM M k = some (if m.kd = 1 then some m.va else none) := fun k h1 h2 => by
      unfold getM
      rw [hbtw k h1 (fun c hc => by rw [hb] at hc; cases hc; exact h2), hd]
      rfl
    have hnk : ∀ k p, p ∈ l → a ≤ k → p.says k = false := fun k p hp hk => by
      rw [← Bool.not_eq_true, Pc.says_iff]
      rintro ⟨_, h2⟩
      have := hup p hp
      grind
    split
    · rename_i hk1
      have hlo : m.lo = a := by
        rw [Ms.says_one m a (.inl hk1)] at hs
        simpa using hs
      have hb0 : b = a ++ [0] := by
        have h1 := next_least a b hab
        have h2 : m.rg.empty = false := Rg.not_empty _ _ (decM_some hd).2.1
        have h3 : m.rg.hi = a ++ [0] := by unfold Ms.rg; rw [if_pos (.inl hk1), hlo]
        have h4 : a ++ [0] ∈ C := (hC.mem _).2 ⟨m, hmM, h2, .inr h3.symm⟩
        obtain ⟨j, hj⟩ := List.getElem?_of_mem h4
        have h5 := lt_append a 0 []
        rcases Nat.lt_trichotomy j (n + 1) with h6 | h6 | h6
        · rcases Nat.lt_or_ge j n with h7 | h7
          · have := hC.lt h7 hj ha; grind
          · have : j = n := by omega
            subst this; rw [ha] at hj; have := Option.some.inj hj; grind
        · subst h6; rw [hb] at hj; cases hj; rfl
        · have := hC.lt h6 hb hj; grind
      refine ⟨fun p hp => ?_, ?_, fun p hp c hc => ?_, fun k hk m' hm' => ?_, fun k p hp hpk => ?_⟩
      · rcases List.mem_append.1 hp with hp | hp
        · exact h.wf p hp
        · simp at hp; subst hp; exact ⟨fun _ => ⟨rfl, rfl⟩, fun e => by cases e⟩
      · rw [List.pairwise_append]
        refine ⟨h.rise, by simp, fun p hp q hq => ?_⟩
        simp at hq; subst hq
        exact ⟨hup p hp, fun _ e => by cases e⟩
      · rw [hb] at hc; cases hc
        rcases List.mem_append.1 hp with hp | hp
        · have := hup p hp; grind
        · simp at hp; subst hp; simp [Pc.fin, hb0]
      · by_cases h1 : k < a
        · obtain ⟨p, hp, hs⟩ := h.hit k (fun c hc => by rw [ha] at hc; cases hc; exact h1) m' hm'
          exact ⟨p, List.mem_append_left _ hp, hs⟩
        · refine ⟨_, List.mem_append_right _ (List.mem_singleton.2 rfl), ?_⟩
          rw [Pc.says_iff]
          have := hk b hb
          simp only [Pc.beg, Pc.fin, if_true]
          exact ⟨by grind, by rw [← hb0]; exact this⟩
      · rcases List.mem_append.1 hp with hp | hp
        · exact h.is k p hp hpk
        · simp at hp; subst hp
          rw [Pc.says_iff] at hpk
          simp only [Pc.beg, Pc.fin, if_true] at hpk
          rw [hg k hpk.1 (by rw [hb0]; exact hpk.2), if_pos hk1]
          rfl
    · rename_i hk1
      rw [hb]
      simp only [Option.getD_some]
      have hg' : ∀ k, a ≤ k → k < b → getM M k = some none := fun k h1 h2 => by rw [hg k h1 h2, if_neg hk1]
      -- The new range stands alone.
      have alone : (∀ p, l.getLast? = some p → ¬ (p.put = false ∧ p.hi = a)) → PInv M C (n + 1) (l ++ [⟨false, [], [], a, b⟩]) := fun hlast => by
        refine ⟨fun p hp => ?_, ?_, fun p hp c hc => ?_, fun k hk m' hm' => ?_, fun k p hp hpk => ?_⟩
        · rcases List.mem_append.1 hp with hp | hp
          · exact h.wf p hp
          · simp at hp; subst hp; exact ⟨fun e => (by cases e), fun _ => ⟨rfl, rfl, hab⟩⟩
        · rw [List.pairwise_append]
          refine ⟨h.rise, by simp, fun p hp q hq => ?_⟩
          simp at hq; subst hq
          refine ⟨hup p hp, fun hpp _ he => ?_⟩
          simp only [Pc.beg, Bool.false_eq_true, if_false] at he
          cases hl : l.getLast? with
          | none => rw [List.getLast?_eq_none_iff] at hl; subst hl; simp at hp
          | some x =>
            have h1 := hlast x hl
            have h2 := getLast_eq hl
            rw [h2] at hp
            rcases List.mem_append.1 hp with hp | hp
            · have h3 := h.rise
              rw [h2, List.pairwise_append] at h3
              have h4 := (h3.2.2 p hp x (by simp)).1
              have h5 : x ∈ l := by rw [h2]; simp
              have h6 := hup x h5
              have h7 := (h.wf x h5).lt
              grind
            · simp at hp; subst hp
              exact h1 ⟨hpp, by rw [← he]; simp [Pc.fin, hpp]⟩
        · rw [hb] at hc; cases hc
          rcases List.mem_append.1 hp with hp | hp
          · have := hup p hp; grind
          · simp at hp; subst hp; simp [Pc.fin]
        · by_cases h1 : k < a
          · obtain ⟨p, hp, hs⟩ := h.hit k (fun c hc => by rw [ha] at hc; cases hc; exact h1) m' hm'
            exact ⟨p, List.mem_append_left _ hp, hs⟩
          · refine ⟨_, List.mem_append_right _ (List.mem_singleton.2 rfl), ?_⟩
            rw [Pc.says_iff]
            have := hk b hb
            simp only [Pc.beg, Pc.fin, Bool.false_eq_true, if_false]
            exact ⟨by grind, this⟩
        · rcases List.mem_append.1 hp with hp | hp
          · exact h.is k p hp hpk
          · simp at hp; subst hp
            rw [Pc.says_iff] at hpk
            simp only [Pc.beg, Pc.fin, Bool.false_eq_true, if_false] at hpk
            rw [hg' k hpk.1 hpk.2]
            rfl
      unfold goneB
      cases hl : l.getLast? with
      | none => exact alone (fun p hp => by rw [hl] at hp; cases hp)
      | some x =>
        simp only
        split
        · rename_i hx
          obtain ⟨hx1, hx2⟩ := hx
          have h2 := getLast_eq hl
          have hxl : x ∈ l := by rw [h2]; simp
          have hwx := (h.wf x hxl).gone hx1
          have hr := h.rise
          rw [h2, List.pairwise_append] at hr
          have hsub : ∀ p, p ∈ l.dropLast → p ∈ l := fun p hp => by rw [h2]; exact List.mem_append_left _ hp
          refine ⟨fun p hp => ?_, ?_, fun p hp c hc => ?_, fun k hk m' hm' => ?_, fun k p hp hpk => ?_⟩
          · rcases List.mem_append.1 hp with hp | hp
            · exact h.wf p (hsub p hp)
            · simp at hp; subst hp
              refine ⟨fun e => (by cases e), fun _ => ⟨hwx.1, hwx.2.1, ?_⟩⟩
              have := hwx.2.2
              simp only
              grind
          · rw [List.pairwise_append]
            refine ⟨hr.1, by simp, fun p hp q hq => ?_⟩
            simp at hq; subst hq
            have h3 := hr.2.2 p hp x (by simp)
            simp only [Pc.beg, hx1, Bool.false_eq_true, if_false] at h3 ⊢
            exact ⟨h3.1, fun e _ => h3.2 e trivial⟩
          · rw [hb] at hc; cases hc
            rcases List.mem_append.1 hp with hp | hp
            · have := hup p (hsub p hp); grind
            · simp at hp; subst hp; simp [Pc.fin]
          · by_cases h1 : k < a
            · obtain ⟨p, hp, hs⟩ := h.hit k (fun c hc => by rw [ha] at hc; cases hc; exact h1) m' hm'
              rw [h2] at hp
              rcases List.mem_append.1 hp with hp | hp
              · exact ⟨p, List.mem_append_left _ hp, hs⟩
              · simp at hp; subst hp
                refine ⟨_, List.mem_append_right _ (List.mem_singleton.2 rfl), ?_⟩
                rw [Pc.says_iff] at hs ⊢
                simp only [Pc.beg, Pc.fin, hx1, Bool.false_eq_true, if_false] at hs ⊢
                exact ⟨hs.1, by grind⟩
            · refine ⟨_, List.mem_append_right _ (List.mem_singleton.2 rfl), ?_⟩
              rw [Pc.says_iff]
              have := hk b hb
              have h3 := hwx.2.2
              simp only [Pc.beg, Pc.fin, Bool.false_eq_true, if_false]
              exact ⟨by grind, this⟩
          · rcases List.mem_append.1 hp with hp | hp
            · exact h.is k p (hsub p hp) hpk
            · simp at hp; subst hp
              rw [Pc.says_iff] at hpk
              simp only [Pc.beg, Pc.fin, Bool.false_eq_true, if_false] at hpk
              by_cases h1 : k < a
              · have := h.is k x hxl (by rw [Pc.says_iff]; simp only [Pc.beg, Pc.fin, hx1, Bool.false_eq_true, if_false]; exact ⟨hpk.1, by rw [hx2]; exact h1⟩)
                rw [this, hx1]
              · rw [hg' k (by grind) hpk.2]
                rfl
        · rename_i hx
          exact alone (fun p hp => by rw [hl] at hp; cases hp; exact hx)
theorem pieces_inv {M : List Ms} {C : List Key} (hC : IsCuts M C) (n : Nat) (hn : n ≤ C.length) : PInv M C n (piecesN M C n) := by
  induction n with
  | zero => exact PInv.zero hC
  | succ n ih => exact (ih (by omega)).step hC (by omega)
end Go.Proofs.Ytpmcpomomagkhaa

/- Children and the keys between them as lists: what may be a branch, its bytes, read again; a key's child; replaced; split. -/
namespace Go.Proofs.Ytpmcpomomagkhaa

/-- Kids. -/
structure Kd where
  ps : List Int
  ks : List Key
  deriving DecidableEq, Inhabited
def Sized (z : Int) : Prop := z = 512 ∨ z = 1024 ∨ z = 2048 ∨ z = 4096
instance (z : Int) : Decidable (Sized z) := by unfold Sized; infer_instance
theorem sized_le {z : Int} (h : Sized z) : 512 ≤ z ∧ z ≤ 4096 := by rcases h with rfl | rfl | rfl | rfl <;> decide
def Kd.fit (d : Kd) : Bool := decide (0 < d.ps.length ∧ d.ks.length + 1 = d.ps.length)
def pagesOk (ps : List Int) : Bool := decide ((∀ p ∈ ps, 2 ≤ p ∧ p ≤ 65535) ∧ ps.Nodup)
def keysOk (z : Nat) (ks : List Key) : Bool := decide (∀ k ∈ ks, 1 ≤ k.length ∧ k.length ≤ z / 16)
def riseK (ks : List Key) : Bool := decide (ks.Pairwise (· < ·))
def bytesL (ks : List Key) : Nat := (ks.map fun k => 2 + k.length).sum
def bytesK (d : Kd) : Nat := 2 + 4 * d.ps.length + bytesL d.ks
theorem bytesL_cons (k : Key) (ks : List Key) : bytesL (k :: ks) = 2 + k.length + bytesL ks := rfl
theorem bytesL_append (a b : List Key) : bytesL (a ++ b) = bytesL a + bytesL b := by simp [bytesL]
theorem bytesL_take (ks : List Key) (i : Nat) (k : Key) (h : ks[i]? = some k) : bytesL (ks.take (i + 1)) = bytesL (ks.take i) + (2 + k.length) := by
  rw [List.take_add_one, h, bytesL_append]; rfl
theorem bytesL_drop (ks : List Key) (i : Nat) (k : Key) (h : ks[i]? = some k) : bytesL (ks.drop i) = 2 + k.length + bytesL (ks.drop (i + 1)) := by
  obtain ⟨h1, rfl⟩ := List.getElem?_eq_some_iff.1 h
  rw [List.drop_eq_getElem_cons h1, bytesL_cons]
def checkK (z : Int) (d : Kd) : Nat :=
  if ¬ Sized z then 1
  else if d.ps.length < 2 ∨ d.fit = false ∨ pagesOk d.ps = false then 61
  else if keysOk z.toNat d.ks = false then 62
  else if riseK d.ks = false then 63
  else if z.toNat - 32 < bytesK d then 64 else 0
theorem checkK_ok {z : Int} {d : Kd} (h : checkK z d = 0) : Sized z ∧ 2 ≤ d.ps.length ∧ d.fit = true ∧ pagesOk d.ps = true ∧ keysOk z.toNat d.ks = true ∧ riseK d.ks = true ∧ bytesK d ≤ z.toNat - 32 := by
  unfold checkK at h
  split at h
  · cases h
  · rename_i h1
    split at h
    · cases h
    · rename_i h2
      split at h
      · cases h
      · rename_i h3
        split at h
        · cases h
        · rename_i h4
          split at h
          · cases h
          · rename_i h5
            simp only [not_or, Bool.not_eq_false] at h1 h2 h3 h4 h5
            exact ⟨by simpa using h1, by omega, h2.2.1, h2.2.2, h3, h4, by omega⟩
theorem checkK_zero {z : Int} {d : Kd} (h1 : Sized z) (h2 : 2 ≤ d.ps.length) (h3 : d.fit = true) (h4 : pagesOk d.ps = true) (h5 : keysOk z.toNat d.ks = true) (h6 : riseK d.ks = true) (h7 : bytesK d ≤ z.toNat - 32) : checkK z d = 0 := by
  unfold checkK
  rw [if_neg (by simpa using h1), if_neg (by simp [h3, h4]; omega), if_neg (by simp [h5]), if_neg (by simp [h6]), if_neg (by omega)]
theorem fit_iff {d : Kd} : d.fit = true ↔ 0 < d.ps.length ∧ d.ks.length + 1 = d.ps.length := by simp [Kd.fit]
theorem pages_iff {ps : List Int} : pagesOk ps = true ↔ (∀ p ∈ ps, 2 ≤ p ∧ p ≤ 65535) ∧ ps.Nodup := by simp [pagesOk]
theorem keys_iff {z : Nat} {ks : List Key} : keysOk z ks = true ↔ ∀ k ∈ ks, 1 ≤ k.length ∧ k.length ≤ z / 16 := by simp [keysOk]
theorem rise_iff {ks : List Key} : riseK ks = true ↔ ks.Pairwise (· < ·) := by simp [riseK]
theorem bytesL_ge (ks : List Key) : 2 * ks.length ≤ bytesL ks := by
  induction ks with
  | nil => simp [bytesL]
  | cons k ks ih => rw [bytesL_cons]; simp; omega
theorem bytesL_mem {ks : List Key} {k : Key} (h : k ∈ ks) : 2 + k.length ≤ bytesL ks := by
  induction ks with
  | nil => simp at h
  | cons a r ih =>
    rw [bytesL_cons]
    rcases List.mem_cons.1 h with rfl | h
    · omega
    · have := ih h; omega
/-- What may be a branch is small. -/
theorem check_small {z : Int} {d : Kd} (h : checkK z d = 0) : d.ps.length < 1024 ∧ d.ks.length < 1024 ∧ bytesK d ≤ 4064 ∧ ∀ k ∈ d.ks, k.length ≤ 256 := by
  obtain ⟨h1, h2, h3, h4, h5, h6, h7⟩ := checkK_ok h
  have hz := sized_le h1
  have hk := (fit_iff.1 h3).2
  have hb := bytesL_ge d.ks
  unfold bytesK at h7
  refine ⟨by omega, by omega, by unfold bytesK; omega, fun k hk => ?_⟩
  have := (keys_iff.1 h5 k hk).2
  omega

/-- A number in two bytes, and in four. -/
def two (n : Nat) : Key := [UInt8.ofNat (n / 256), UInt8.ofNat (n % 256)]
def four (n : Nat) : Key := two (n / 65536) ++ two (n % 65536)
def num : Key → Nat := fun b => b.foldl (fun n c => n * 256 + c.toNat) 0
theorem two_length (n : Nat) : (two n).length = 2 := rfl
theorem four_length (n : Nat) : (four n).length = 4 := rfl
theorem num_two {n : Nat} (h : n < 65536) : num (two n) = n := by
  simp [num, two, UInt8.toNat_ofNat']; omega
theorem num_four {n : Nat} (h : n < 4294967296) : num (four n) = n := by
  simp [num, four, two, UInt8.toNat_ofNat']; omega
theorem u8_lt (c : UInt8) : c.toNat < 256 := c.toNat_lt
theorem u8_of (c : UInt8) (n : Nat) (h : n % 256 = c.toNat) : UInt8.ofNat n = c := by
  apply UInt8.toNat_inj.1
  rw [UInt8.toNat_ofNat']; exact h
theorem two_num (a b : UInt8) : two (num [a, b]) = [a, b] := by
  have ha := u8_lt a
  have hb := u8_lt b
  simp only [num, two, List.foldl_cons, List.foldl_nil]
  rw [u8_of a _ (by omega), u8_of b _ (by omega)]
theorem four_num (a b c e : UInt8) : four (num [a, b, c, e]) = [a, b, c, e] := by
  have ha := u8_lt a
  have hb := u8_lt b
  have hc := u8_lt c
  have he := u8_lt e
  simp only [num, four, two, List.foldl_cons, List.foldl_nil, List.cons_append, List.nil_append]
  rw [u8_of a _ (by omega), u8_of b _ (by omega), u8_of c _ (by omega), u8_of e _ (by omega)]
theorem num_bound (b : Key) : num b < 256 ^ b.length := by
  unfold num
  suffices h : ∀ (b : Key) (n k : Nat), n < 256 ^ k → b.foldl (fun n c => n * 256 + c.toNat) n < 256 ^ (k + b.length) by simpa using h b 0 0 (by decide)
  intro b
  induction b with
  | nil => intro n k h; simpa using h
  | cons c r ih =>
    intro n k h
    have hc := u8_lt c
    have := ih (n * 256 + c.toNat) (k + 1) (by rw [Nat.pow_succ]; omega)
    rw [List.foldl_cons, List.length_cons]
    rw [show k + (r.length + 1) = k + 1 + r.length by omega]
    exact this

/-- The bytes. -/
def encP (ps : List Int) : Key := ps.flatMap fun p => four p.toNat
def encKs (ks : List Key) : Key := ks.flatMap fun k => two k.length ++ k
def encK (d : Kd) : Key := two d.ps.length ++ encP d.ps ++ encKs d.ks
theorem encP_append (a b : List Int) : encP (a ++ b) = encP a ++ encP b := List.flatMap_append
theorem encKs_append (a b : List Key) : encKs (a ++ b) = encKs a ++ encKs b := List.flatMap_append
theorem encP_take (ps : List Int) (i : Nat) (p : Int) (h : ps[i]? = some p) : encP (ps.take (i + 1)) = encP (ps.take i) ++ four p.toNat := by
  rw [List.take_add_one, h, encP_append]; simp [encP]
theorem encKs_take (ks : List Key) (i : Nat) (k : Key) (h : ks[i]? = some k) : encKs (ks.take (i + 1)) = encKs (ks.take i) ++ two k.length ++ k := by
  rw [List.take_add_one, h, encKs_append, List.append_assoc]; simp [encKs]
theorem encP_length (ps : List Int) : (encP ps).length = 4 * ps.length := by
  induction ps with
  | nil => rfl
  | cons p ps ih => show (four p.toNat ++ encP ps).length = _; rw [List.length_append, ih, four_length]; simp; omega
theorem encKs_length (ks : List Key) : (encKs ks).length = bytesL ks := by
  induction ks with
  | nil => rfl
  | cons k ks ih => show ((two k.length ++ k) ++ encKs ks).length = _; rw [List.length_append, ih, List.length_append, two_length, bytesL_cons]
theorem encK_length (d : Kd) : (encK d).length = bytesK d := by
  unfold encK bytesK; rw [List.length_append, List.length_append, encP_length, encKs_length, two_length]

/-- Read: so many numbers, then so many keys; what is left. -/
def readP : Nat → Key → List Int
  | 0, _ => []
  | n + 1, b => (num (b.take 4) : Int) :: readP n (b.drop 4)
def readKs : Nat → Key → Option (List Key × Key)
  | 0, b => some ([], b)
  | n + 1, b => if b.length < 2 then none else if b.length < 2 + num (b.take 2) then none
      else (readKs n (b.drop (2 + num (b.take 2)))).map fun x => ((b.drop 2).take (num (b.take 2)) :: x.1, x.2)
def readK (b : Key) : Option (Kd × Key) :=
  if b.length < 2 then none else if b.length - 2 < 4 * num (b.take 2) then none
  else (readKs (num (b.take 2) - 1) ((b.drop 2).drop (4 * num (b.take 2)))).map fun x => (⟨readP (num (b.take 2)) (b.drop 2), x.1⟩, x.2)
theorem readP_length (n : Nat) (b : Key) : (readP n b).length = n := by
  induction n generalizing b with
  | zero => rfl
  | succ n ih => simp [readP, ih]
theorem readP_enc (ps : List Int) (r : Key) (h : ∀ p ∈ ps, 0 ≤ p ∧ p < 4294967296) : readP ps.length (encP ps ++ r) = ps := by
  induction ps with
  | nil => rfl
  | cons p ps ih =>
    have hp := h p (by simp)
    have e : encP (p :: ps) ++ r = four p.toNat ++ (encP ps ++ r) := by show (four p.toNat ++ encP ps) ++ r = _; rw [List.append_assoc]
    rw [e]
    show (num ((four p.toNat ++ (encP ps ++ r)).take 4) : Int) :: readP ps.length ((four p.toNat ++ (encP ps ++ r)).drop 4) = p :: ps
    rw [List.take_left' (four_length _), List.drop_left' (four_length _), num_four (by omega), ih (fun q hq => h q (by simp [hq]))]
    congr 1
    omega
theorem readP_back (n : Nat) (b : Key) (h : 4 * n ≤ b.length) : encP (readP n b) = b.take (4 * n) := by
  induction n generalizing b with
  | zero => simp [readP, encP]
  | succ n ih =>
    match b, h with
    | x :: y :: z :: u :: r, h =>
      show four (num [x, y, z, u] : Int).toNat ++ encP (readP n r) = _
      rw [Int.toNat_natCast, four_num, ih r (by simp at h; omega), show 4 * (n + 1) = 4 * n + 4 by omega]
      simp
    | [], h => simp at h
    | [_], h => simp at h; omega
    | [_, _], h => simp at h; omega
    | [_, _, _], h => simp at h; omega
theorem readKs_length (n : Nat) (b : Key) (x : List Key × Key) (h : readKs n b = some x) : x.1.length = n := by
  induction n generalizing b x with
  | zero => cases h; rfl
  | succ n ih =>
    unfold readKs at h
    split at h
    · cases h
    · split at h
      · cases h
      · obtain ⟨y, hy, rfl⟩ := Option.map_eq_some_iff.1 h
        simp [ih _ _ hy]
theorem readKs_enc (ks : List Key) (r : Key) (h : ∀ k ∈ ks, k.length < 65536) : readKs ks.length (encKs ks ++ r) = some (ks, r) := by
  induction ks with
  | nil => rfl
  | cons k ks ih =>
    have hk := h k (by simp)
    have e : encKs (k :: ks) ++ r = two k.length ++ (k ++ (encKs ks ++ r)) := by
      show ((two k.length ++ k) ++ encKs ks) ++ r = _; simp only [List.append_assoc]
    rw [e]
    have e2 : (two k.length ++ (k ++ (encKs ks ++ r))).take 2 = two k.length := List.take_left' rfl
    have e3 : (two k.length ++ (k ++ (encKs ks ++ r))).drop 2 = k ++ (encKs ks ++ r) := List.drop_left' rfl
    have e4 : (two k.length ++ (k ++ (encKs ks ++ r))).drop (2 + k.length) = encKs ks ++ r := by rw [← List.drop_drop, e3, List.drop_left' rfl]
    show readKs (ks.length + 1) _ = _
    unfold readKs
    rw [e2, num_two hk, if_neg (by simp [two_length]), if_neg (by simp [two_length]), e4, ih (fun q hq => h q (by simp [hq])), e3, List.take_left' rfl]
    rfl
theorem readKs_back (n : Nat) (b : Key) (x : List Key × Key) (h : readKs n b = some x) : encKs x.1 ++ x.2 = b := by
  induction n generalizing b x with
  | zero => cases h; rfl
  | succ n ih =>
    unfold readKs at h
    split at h
    · cases h
    · split at h
      · cases h
      · rename_i h1 h2
        obtain ⟨y, hy, rfl⟩ := Option.map_eq_some_iff.1 h
        have := ih _ _ hy
        match b, h1 with
        | p :: q :: s, _ =>
          simp only [List.take_succ_cons, List.take_zero, List.drop_succ_cons, List.drop_zero, List.length_cons] at *
          have h3 : num [p, q] ≤ s.length := by omega
          have hl : (s.take (num [p, q])).length = num [p, q] := by rw [List.length_take]; omega
          show ((two (s.take (num [p, q])).length ++ s.take (num [p, q])) ++ encKs y.1) ++ y.2 = _
          rw [hl, two_num, List.append_assoc, List.append_assoc, this]
          rw [show 2 + num [p, q] = num [p, q] + 1 + 1 by omega]
          simp
        | [], h1 => simp at h1
        | [_], h1 => simp at h1
theorem readK_enc (d : Kd) (r : Key) (hf : d.fit = true) (hl : d.ps.length < 65536) (hp : ∀ p ∈ d.ps, 0 ≤ p ∧ p < 4294967296) (hk : ∀ k ∈ d.ks, k.length < 65536) : readK (encK d ++ r) = some (d, r) := by
  obtain ⟨h0, h1⟩ := fit_iff.1 hf
  have e : encK d ++ r = two d.ps.length ++ (encP d.ps ++ (encKs d.ks ++ r)) := by unfold encK; simp only [List.append_assoc]
  rw [e]
  have e2 : (two d.ps.length ++ (encP d.ps ++ (encKs d.ks ++ r))).take 2 = two d.ps.length := List.take_left' rfl
  have e3 : (two d.ps.length ++ (encP d.ps ++ (encKs d.ks ++ r))).drop 2 = encP d.ps ++ (encKs d.ks ++ r) := List.drop_left' rfl
  unfold readK
  rw [e2, num_two hl, e3, if_neg (by simp [two_length]), if_neg (by simp [two_length, encP_length]), List.drop_left' (encP_length _), show d.ps.length - 1 = d.ks.length by omega, readKs_enc _ _ hk, readP_enc _ _ hp]
  rfl
theorem readK_back (b : Key) (d : Kd) (r : Key) (h : readK b = some (d, r)) : encK d ++ r = b ∧ d.ps.length < 65536 ∧ d.ks.length = d.ps.length - 1 := by
  unfold readK at h
  split at h
  · cases h
  · split at h
    · cases h
    · rename_i h1 h2
      obtain ⟨y, hy, e⟩ := Option.map_eq_some_iff.1 h
      obtain ⟨rfl, rfl⟩ := Prod.mk.injEq _ _ _ _ ▸ e
      have hb := readKs_back _ _ _ hy
      have hl := readKs_length _ _ _ hy
      have hn : num (b.take 2) < 65536 := by have := num_bound (b.take 2); rw [List.length_take, Nat.min_eq_left (by omega)] at this; simpa using this
      refine ⟨?_, by simpa [readP_length] using hn, by simpa [readP_length] using hl⟩
      match b, h1 with
      | p :: q :: s, _ =>
        simp only [List.take_succ_cons, List.take_zero, List.drop_succ_cons, List.drop_zero, List.length_cons] at *
        show (two (readP (num [p, q]) s).length ++ encP (readP (num [p, q]) s) ++ encKs y.1) ++ y.2 = _
        rw [readP_length, readP_back _ _ (by omega), two_num, List.append_assoc, List.append_assoc, hb, List.take_append_drop]
        rfl
      | [], h1 => simp at h1
      | [_], h1 => simp at h1
theorem check_enc {z : Int} {d : Kd} (h : checkK z d = 0) (r : Key) : readK (encK d ++ r) = some (d, r) := by
  obtain ⟨h1, h2, h3, h4, h5, h6, h7⟩ := checkK_ok h
  have hs := check_small h
  refine readK_enc d r h3 (by omega) (fun p hp => ?_) fun k hk => ?_
  · have := (pages_iff.1 h4).1 p hp; omega
  · have := hs.2.2.2 k hk; omega
/-- Decode. -/
def decK (z : Int) (b : Key) : Option Kd :=
  if Sized z ∧ b.length ≤ z.toNat - 32 then match readK b with
    | some (d, []) => if checkK z d = 0 then some d else none
    | _ => none
  else none
theorem decK_iff {z : Int} {b : Key} {d : Kd} : decK z b = some d ↔ checkK z d = 0 ∧ encK d = b := by
  constructor
  · intro h
    unfold decK at h
    split at h
    · split at h
      · rename_i d' hr
        split at h
        · cases h
          rename_i hc
          have := (readK_back _ _ _ hr).1
          exact ⟨hc, by simpa using this⟩
        · cases h
      · cases h
    · cases h
  · rintro ⟨hc, rfl⟩
    have hr := check_enc hc []
    rw [List.append_nil] at hr
    have hk := checkK_ok hc
    unfold decK
    rw [if_pos ⟨hk.1, by rw [encK_length]; exact hk.2.2.2.2.2.2⟩, hr]
    simp [hc]
/-- Nothing else begins as the bytes of a branch do. -/
theorem encK_alone {z : Int} {d d' : Kd} {r : Key} (h : checkK z d = 0) (h' : checkK z d' = 0) (e : encK d = encK d' ++ r) : r = [] := by
  have h1 := check_enc h []
  have h2 := check_enc h' r
  rw [List.append_nil, e, h2] at h1
  simp at h1
  exact h1.2
theorem decK_cut {z : Int} {d : Kd} (h : checkK z d = 0) (m : Nat) (hm : m < (encK d).length) : decK z ((encK d).take m) = none := by
  cases hd : decK z ((encK d).take m) with
  | none => rfl
  | some d' =>
    obtain ⟨h1, h2⟩ := decK_iff.1 hd
    have := encK_alone h h1 (r := (encK d).drop m) (by rw [h2, List.take_append_drop])
    have hl := congrArg List.length this
    rw [List.length_drop] at hl
    simp at hl; omega
theorem decK_more {z : Int} {d : Kd} (h : checkK z d = 0) (c : UInt8) : decK z (encK d ++ [c]) = none := by
  cases hd : decK z (encK d ++ [c]) with
  | none => rfl
  | some d' =>
    obtain ⟨h1, h2⟩ := decK_iff.1 hd
    have := encK_alone h1 h h2
    cases this

/-- A key's child. -/
def childK (ks : List Key) (k : Key) : Nat := ks.findIdx fun x => decide (k < x)
/-- Others in the place of some children. -/
def replK (d : Kd) (i j : Nat) (by' : Kd) : Kd := ⟨d.ps.take i ++ by'.ps ++ d.ps.drop j, d.ks.take i ++ by'.ks ++ d.ks.drop (j - 1)⟩
end Go.Proofs.Ytpmcpomomagkhaa

/- Messages that may be; their bytes, and read again. -/
namespace Go.Proofs.Ytpmcpomomagkhaa

/-- A message may be, but for its stamp. -/
def Ms.may (z : Nat) (m : Ms) : Bool := decide (1 ≤ m.lo.length ∧ m.lo.length ≤ z / 16) &&
  (if m.kd = 1 then decide (m.hi = [] ∧ m.va.length ≤ z / 4) else if m.kd = 2 then decide (m.hi = [] ∧ m.va = []) else if m.kd = 3 then decide (m.hi.length ≤ z / 16 ∧ m.lo < m.hi ∧ m.va = []) else false)
def checkL (z : Nat) : Nat → List Ms → Nat
  | _, [] => 0
  | n, m :: r => if m.may z = false then 71 else if m.st ≤ n ∨ 4611686018427387904 < m.st then 72 else checkL z m.st r
def checkM (z : Int) (l : List Ms) : Nat := if ¬ Sized z then 1 else checkL z.toNat 0 l
theorem checkL_zero {z n : Nat} {l : List Ms} : checkL z n l = 0 ↔ (∀ m ∈ l, m.may z = true ∧ n < m.st ∧ m.st ≤ 4611686018427387904) ∧ l.Pairwise fun a b => a.st < b.st := by
  induction l generalizing n with
  | nil => simp [checkL]
  | cons m r ih =>
    unfold checkL
    constructor
    · intro h
      split at h
      · cases h
      · rename_i h1
        split at h
        · cases h
        · rename_i h2
          rw [ih] at h
          rw [List.pairwise_cons]
          refine ⟨fun x hx => ?_, fun x hx => (h.1 x hx).2.1, h.2⟩
          rcases List.mem_cons.1 hx with rfl | hx
          · exact ⟨by simpa using h1, by omega, by omega⟩
          · have := h.1 x hx; exact ⟨this.1, by omega, this.2.2⟩
    · rintro ⟨h1, h2⟩
      have h3 := h1 m (List.mem_cons_self ..)
      rw [List.pairwise_cons] at h2
      rw [if_neg (by simp [h3.1]), if_neg (by omega), ih]
      exact ⟨fun x hx => ⟨(h1 x (List.mem_cons_of_mem _ hx)).1, h2.1 x hx, (h1 x (List.mem_cons_of_mem _ hx)).2.2⟩, h2.2⟩
theorem checkM_zero {z : Int} {l : List Ms} : checkM z l = 0 ↔ Sized z ∧ (∀ m ∈ l, m.may z.toNat = true ∧ 0 < m.st ∧ m.st ≤ 4611686018427387904) ∧ l.Pairwise fun a b => a.st < b.st := by
  unfold checkM
  by_cases h : Sized z
  · rw [if_neg (by simpa using h), checkL_zero]; simp [h]
  · rw [if_pos h]; simp [h]
/-- Of messages that may be some. -/
theorem checkM_sub {z : Int} {l r : List Ms} (h : checkM z l = 0) (hs : r.Sublist l) : checkM z r = 0 := by
  rw [checkM_zero] at h ⊢
  exact ⟨h.1, fun m hm => h.2.1 m (hs.subset hm), h.2.2.sublist hs⟩

def eight (n : Nat) : Key := four (n / 4294967296) ++ four (n % 4294967296)
theorem eight_length (n : Nat) : (eight n).length = 8 := rfl
theorem num_append (a b : Key) : num (a ++ b) = num a * 256 ^ b.length + num b := by
  unfold num
  rw [List.foldl_append]
  suffices h : ∀ (b : Key) (n : Nat), b.foldl (fun n c => n * 256 + c.toNat) n = n * 256 ^ b.length + b.foldl (fun n c => n * 256 + c.toNat) 0 from h b _
  intro b
  induction b with
  | nil => intro n; simp
  | cons c r ih =>
    intro n
    rw [List.foldl_cons, List.foldl_cons, ih, ih (0 * 256 + c.toNat), List.length_cons, Nat.pow_succ, Nat.add_mul, Nat.zero_mul, Nat.zero_add, Nat.mul_assoc, Nat.mul_comm 256, Nat.add_assoc]
theorem num_eight {n : Nat} (h : n < 18446744073709551616) : num (eight n) = n := by
  have h1 := num_append (four (n / 4294967296)) (four (n % 4294967296))
  rw [num_four (by omega), num_four (by omega), four_length, show (256 : Nat) ^ 4 = 4294967296 by decide] at h1
  have h2 : num (eight n) = n / 4294967296 * 4294967296 + n % 4294967296 := h1
  omega
theorem eight_num (b : Key) (h : b.length = 8) : eight (num b) = b := by
  match b, h with
  | [a1, a2, a3, a4, a5, a6, a7, a8], _ =>
    have e : ([a1, a2, a3, a4, a5, a6, a7, a8] : Key) = [a1, a2, a3, a4] ++ [a5, a6, a7, a8] := rfl
    rw [e, num_append]
    have h1 := num_bound [a5, a6, a7, a8]
    have h3 : (256 : Nat) ^ [a5, a6, a7, a8].length = 4294967296 := by rw [show [a5, a6, a7, a8].length = 4 from rfl]
    rw [h3] at h1 ⊢
    unfold eight
    rw [show (num [a1, a2, a3, a4] * 4294967296 + num [a5, a6, a7, a8]) / 4294967296 = num [a1, a2, a3, a4] by omega, show (num [a1, a2, a3, a4] * 4294967296 + num [a5, a6, a7, a8]) % 4294967296 = num [a5, a6, a7, a8] by omega, four_num, four_num]
def tailM (m : Ms) : Key := if m.kd = 1 then m.va else if m.kd = 3 then m.hi else []
def lay1 (m : Ms) : Key := eight m.st ++ ([UInt8.ofNat m.kd.toNat] ++ (two m.lo.length ++ (two (tailM m).length ++ (m.lo ++ tailM m))))
def layL (l : List Ms) : Key := l.flatMap lay1
def layM (l : List Ms) : Key := four l.length ++ layL l
def sizeM (m : Ms) : Nat := 13 + m.lo.length + m.hi.length + m.va.length
def sizesM (l : List Ms) : Nat := (l.map sizeM).sum
theorem layL_cons (m : Ms) (l : List Ms) : layL (m :: l) = lay1 m ++ layL l := rfl
theorem sizesM_cons (m : Ms) (l : List Ms) : sizesM (m :: l) = sizeM m + sizesM l := rfl
theorem sizesM_append (a b : List Ms) : sizesM (a ++ b) = sizesM a + sizesM b := by simp [sizesM]
theorem sizesM_take (l : List Ms) (i : Nat) (m : Ms) (h : l[i]? = some m) : sizesM (l.take (i + 1)) = sizesM (l.take i) + sizeM m := by
  rw [List.take_add_one, h, sizesM_append]; rfl
theorem sizesM_sub {a b : List Ms} (h : a.Sublist b) : sizesM a ≤ sizesM b := by
  induction h with
  | slnil => exact Nat.le_refl _
  | cons x h ih => rw [sizesM_cons]; omega
  | cons_cons x h ih => rw [sizesM_cons, sizesM_cons]; omega
theorem lay1_length (m : Ms) : (lay1 m).length = 13 + m.lo.length + (tailM m).length := by
  simp [lay1, eight_length, two_length]; omega
theorem may_size {z : Nat} {m : Ms} (h : m.may z = true) : sizeM m = 13 + m.lo.length + (tailM m).length := by
  unfold Ms.may at h
  unfold sizeM tailM
  rw [Bool.and_eq_true] at h
  obtain ⟨_, h⟩ := h
  split at h
  · rename_i h1
    rw [if_pos h1]
    simp at h; rw [h.1]; simp
  · rename_i h1
    split at h
    · rename_i h2
      rw [if_neg h1, if_neg (by omega)]
      simp at h; rw [h.1, h.2]; simp
    · split at h
      · rename_i h3
        rw [if_neg h1, if_pos h3]
        simp at h; rw [h.2.2]; simp
      · cases h
theorem layM_length {z : Int} {l : List Ms} (h : checkM z l = 0) : (layM l).length = 4 + sizesM l := by
  rw [checkM_zero] at h
  have : ∀ r : List Ms, (∀ m ∈ r, m.may z.toNat = true) → (layL r).length = sizesM r := by
    intro r
    induction r with
    | nil => intro _; rfl
    | cons m r ih =>
      intro h
      rw [layL_cons, sizesM_cons, List.length_append, lay1_length, may_size (h m (List.mem_cons_self ..)), ih fun x hx => h x (List.mem_cons_of_mem _ hx)]
  rw [layM, List.length_append, four_length, this l fun m hm => (h.2.1 m hm).1]

/-- One message is read. -/
def read1 (b : Key) : Option (Ms × Key) :=
  if b.length < 13 then none
  else if (b.drop 13).length < num ((b.drop 9).take 2) + num ((b.drop 11).take 2) then none
  else some (⟨num (b.take 8), (num ((b.drop 8).take 1) : Int), (b.drop 13).take (num ((b.drop 9).take 2)),
      if (num ((b.drop 8).take 1) : Int) = 1 then [] else ((b.drop 13).drop (num ((b.drop 9).take 2))).take (num ((b.drop 11).take 2)),
      if (num ((b.drop 8).take 1) : Int) = 1 then ((b.drop 13).drop (num ((b.drop 9).take 2))).take (num ((b.drop 11).take 2)) else []⟩,
    (b.drop 13).drop (num ((b.drop 9).take 2) + num ((b.drop 11).take 2)))
def readN : Nat → Key → Option (List Ms × Key)
  | 0, b => some ([], b)
  | n + 1, b => match read1 b with
    | none => none
    | some (m, r) => match readN n r with
      | none => none
      | some (l, s) => some (m :: l, s)
def decB (z : Int) (b : Key) : Option (List Ms) :=
  if b.length < 4 then none
  else match readN (num (b.take 4)) (b.drop 4) with
    | some (l, []) => if checkM z l = 0 then some l else none
    | _ => none
theorem num_one (c : UInt8) : num [c] = c.toNat := by simp [num]
theorem may_kd {z : Nat} {m : Ms} (h : m.may z = true) : m.kd = 1 ∨ m.kd = 2 ∨ m.kd = 3 := by
  unfold Ms.may at h
  rw [Bool.and_eq_true] at h
  obtain ⟨_, h⟩ := h
  split at h
  · omega
  · split at h
    · omega
    · split at h
      · omega
      · cases h
theorem may_is {z : Nat} {m : Ms} (h : m.may z = true) : m = ⟨m.st, m.kd, m.lo, if m.kd = 1 then [] else tailM m, if m.kd = 1 then tailM m else []⟩ := by
  obtain ⟨st, kd, lo, hi, va⟩ := m
  unfold Ms.may at h
  unfold tailM
  rw [Bool.and_eq_true] at h
  obtain ⟨_, h⟩ := h
  simp only at h ⊢
  split at h
  · rename_i h1; simp at h; simp [h1, h.1]
  · rename_i h1
    split at h
    · rename_i h2; simp at h; simp [h2, h.1, h.2]
    · split at h
      · rename_i h3; simp at h; simp [h3, h.2.2]
      · cases h
theorem may_short {z : Nat} {m : Ms} (hz : z ≤ 4096) (h : m.may z = true) : m.lo.length ≤ 256 ∧ (tailM m).length ≤ 1024 := by
  unfold Ms.may at h
  unfold tailM
  rw [Bool.and_eq_true] at h
  obtain ⟨h0, h⟩ := h
  simp at h0
  refine ⟨by omega, ?_⟩
  split at h
  · rename_i h1; simp at h; rw [if_pos h1]; omega
  · rename_i h1
    split at h
    · rename_i h2; rw [if_neg h1, if_neg (by omega)]; simp
    · split at h
      · rename_i h3; simp at h; rw [if_neg h1, if_pos h3]; omega
      · cases h
theorem read1_lay {z : Nat} {m : Ms} (r : Key) (hz : z ≤ 4096) (h : m.may z = true) (hs : m.st ≤ 4611686018427387904) : read1 (lay1 m ++ r) = some (m, r) := by
  obtain ⟨h1, h2⟩ := may_short hz h
  have hk := may_kd h
  have e : lay1 m ++ r = eight m.st ++ ([UInt8.ofNat m.kd.toNat] ++ (two m.lo.length ++ (two (tailM m).length ++ (m.lo ++ (tailM m ++ r))))) := by
    simp [lay1]
  have d0 : (lay1 m ++ r).take 8 = eight m.st := by rw [e, List.take_left' (eight_length _)]
  have d8 : (lay1 m ++ r).drop 8 = [UInt8.ofNat m.kd.toNat] ++ (two m.lo.length ++ (two (tailM m).length ++ (m.lo ++ (tailM m ++ r)))) := by rw [e, List.drop_left' (eight_length _)]
  have d9 : (lay1 m ++ r).drop 9 = two m.lo.length ++ (two (tailM m).length ++ (m.lo ++ (tailM m ++ r))) := by
    rw [show 9 = 8 + 1 from rfl, ← List.drop_drop, d8]; rfl
  have d11 : (lay1 m ++ r).drop 11 = two (tailM m).length ++ (m.lo ++ (tailM m ++ r)) := by
    rw [show 11 = 9 + 2 from rfl, ← List.drop_drop, d9, List.drop_left' (two_length _)]
  have d13 : (lay1 m ++ r).drop 13 = m.lo ++ (tailM m ++ r) := by
    rw [show 13 = 11 + 2 from rfl, ← List.drop_drop, d11, List.drop_left' (two_length _)]
  have t1 : (num (((lay1 m ++ r).drop 8).take 1) : Int) = m.kd := by
    rw [d8, show List.take 1 ([UInt8.ofNat m.kd.toNat] ++ (two m.lo.length ++ (two (tailM m).length ++ (m.lo ++ (tailM m ++ r))))) = [UInt8.ofNat m.kd.toNat] from rfl, num_one, UInt8.toNat_ofNat']; omega
  have t2 : num (((lay1 m ++ r).drop 9).take 2) = m.lo.length := by rw [d9, List.take_left' (two_length _), num_two (by omega)]
  have t3 : num (((lay1 m ++ r).drop 11).take 2) = (tailM m).length := by rw [d11, List.take_left' (two_length _), num_two (by omega)]
  unfold read1
  rw [t1, t2, t3, d0, d13, num_eight (by omega), if_neg (by rw [List.length_append, lay1_length]; omega), if_neg (by simp), List.take_left' rfl, List.drop_left' rfl, List.take_left' rfl, ← List.drop_drop, List.drop_left' rfl, List.drop_left' rfl, ← may_is h]
theorem readN_lay {z : Nat} (hz : z ≤ 4096) (l : List Ms) (h : ∀ m ∈ l, m.may z = true ∧ m.st ≤ 4611686018427387904) (r : Key) : readN l.length (layL l ++ r) = some (l, r) := by
  induction l with
  | nil => rfl
  | cons m l ih =>
    have h1 := h m (List.mem_cons_self ..)
    rw [List.length_cons, layL_cons, List.append_assoc]
    unfold readN
    rw [read1_lay _ hz h1.1 h1.2]
    simp only
    rw [ih fun x hx => h x (List.mem_cons_of_mem _ hx)]
/-- What is written is read. -/
theorem dec_lay {z : Int} {l : List Ms} (h : checkM z l = 0) (hl : l.length < 4294967296) : decB z (layM l) = some l := by
  have h' := checkM_zero.1 h
  have hz := sized_le h'.1
  unfold decB
  rw [if_neg (by rw [layM, List.length_append, four_length]; omega), layM, List.take_left' (four_length _), List.drop_left' (four_length _), num_four hl]
  have := readN_lay (z := z.toNat) (by omega) l (fun m hm => ⟨(h'.2.1 m hm).1, (h'.2.1 m hm).2.2⟩) []
  rw [List.append_nil] at this
  rw [this]
  simp only
  rw [if_pos h]
theorem lay_read1 {b r : Key} {m : Ms} (h : read1 b = some (m, r)) {z : Nat} (hm : m.may z = true) : b = lay1 m ++ r := by
  unfold read1 at h
  split at h
  · cases h
  · rename_i h13
    split at h
    · cases h
    · rename_i hl
      simp only [Option.some.injEq, Prod.mk.injEq] at h
      obtain ⟨rfl, rfl⟩ := h
      have hk := may_kd hm
      have h1 : 13 ≤ b.length := by omega
      have e0 : b = b.take 8 ++ ((b.drop 8).take 1 ++ ((b.drop 9).take 2 ++ ((b.drop 11).take 2 ++ b.drop 13))) := by
        have a1 : (b.drop 11).take 2 ++ b.drop 13 = b.drop 11 := by rw [show 13 = 11 + 2 from rfl, ← List.drop_drop, List.take_append_drop]
        have a2 : (b.drop 9).take 2 ++ b.drop 11 = b.drop 9 := by rw [show 11 = 9 + 2 from rfl, ← List.drop_drop, List.take_append_drop]
        have a3 : (b.drop 8).take 1 ++ b.drop 9 = b.drop 8 := by rw [show 9 = 8 + 1 from rfl, ← List.drop_drop, List.take_append_drop]
        rw [a1, a2, a3, List.take_append_drop]
      generalize hlo : num ((b.drop 9).take 2) = lo at *
      generalize htl : num ((b.drop 11).take 2) = tl at *
      generalize hkd : (num ((b.drop 8).take 1) : Int) = kd at *
      have hlen : ((b.drop 13).take lo).length = lo := by rw [List.length_take]; omega
      have hlen2 : (((b.drop 13).drop lo).take tl).length = tl := by rw [List.length_take, List.length_drop]; omega
      have ht : tailM ⟨num (b.take 8), kd, (b.drop 13).take lo, if kd = 1 then [] else ((b.drop 13).drop lo).take tl, if kd = 1 then ((b.drop 13).drop lo).take tl else []⟩ = ((b.drop 13).drop lo).take tl := by
        unfold tailM
        simp only
        rcases hk with hk | hk | hk
        · simp only at hk; simp [hk]
        · simp only at hk
          have := may_is hm
          simp only [Ms.mk.injEq, tailM, hk] at this
          have h3 := this.2.2.2.1
          simp only [show ¬ (2 : Int) = 1 by decide, show ¬ (2 : Int) = 3 by decide, if_false] at h3
          simp only [hk, show ¬ (2 : Int) = 1 by decide, show ¬ (2 : Int) = 3 by decide, if_false]
          exact h3.symm
        · simp only at hk; simp [hk]
      unfold lay1
      rw [ht]
      simp only
      rw [hlen, hlen2, eight_num _ (by rw [List.length_take]; omega)]
      have b2 : two lo = (b.drop 9).take 2 := by
        obtain ⟨x, y, hxy⟩ : ∃ x y, (b.drop 9).take 2 = [x, y] := by
          match hh : (b.drop 9).take 2, (show ((b.drop 9).take 2).length = 2 by rw [List.length_take, List.length_drop]; omega) with
          | [x, y], _ => exact ⟨x, y, rfl⟩
        rw [← hlo, hxy, two_num]
      have b3 : two tl = (b.drop 11).take 2 := by
        obtain ⟨x, y, hxy⟩ : ∃ x y, (b.drop 11).take 2 = [x, y] := by
          match hh : (b.drop 11).take 2, (show ((b.drop 11).take 2).length = 2 by rw [List.length_take, List.length_drop]; omega) with
          | [x, y], _ => exact ⟨x, y, rfl⟩
        rw [← htl, hxy, two_num]
      have b1 : [UInt8.ofNat kd.toNat] = (b.drop 8).take 1 := by
        obtain ⟨x, hx⟩ : ∃ x, (b.drop 8).take 1 = [x] := by
          match hh : (b.drop 8).take 1, (show ((b.drop 8).take 1).length = 1 by rw [List.length_take, List.length_drop]; omega) with
          | [x], _ => exact ⟨x, rfl⟩
        rw [← hkd, hx, num_one, Int.toNat_natCast, u8_of x _ (by have := u8_lt x; omega)]
      rw [b1, b2, b3]
      have e1 : b.drop 13 = (b.drop 13).take lo ++ (((b.drop 13).drop lo).take tl ++ (b.drop 13).drop (lo + tl)) := by
        rw [← List.drop_drop, List.take_append_drop, List.take_append_drop]
      conv => lhs; rw [e0, e1]
      simp only [List.append_assoc]
theorem lay_readN {z : Nat} (n : Nat) (b : Key) (l : List Ms) (s : Key) (h : readN n b = some (l, s)) (hm : ∀ m ∈ l, m.may z = true) : b = layL l ++ s ∧ l.length = n := by
  induction n generalizing b l with
  | zero => simp [readN] at h; obtain ⟨rfl, rfl⟩ := h; exact ⟨rfl, rfl⟩
  | succ n ih =>
    unfold readN at h
    split at h
    · cases h
    · rename_i m r h1
      split at h
      · cases h
      · rename_i l' s' h2
        simp only [Option.some.injEq, Prod.mk.injEq] at h
        obtain ⟨rfl, rfl⟩ := h
        obtain ⟨h3, h4⟩ := ih r l' h2 (fun x hx => hm x (List.mem_cons_of_mem _ hx))
        have h5 := lay_read1 h1 (hm m (List.mem_cons_self ..))
        exact ⟨by rw [h5, h3, layL_cons, List.append_assoc], by simp [h4]⟩
/-- What is read is written so again. -/
theorem lay_dec {z : Int} {b : Key} {l : List Ms} (h : decB z b = some l) : checkM z l = 0 ∧ layM l = b ∧ l.length < 4294967296 := by
  unfold decB at h
  split at h
  · cases h
  · rename_i h4
    split at h
    · rename_i l' hr
      split at h
      · rename_i hc
        cases h
        have hc' := checkM_zero.1 hc
        obtain ⟨h1, h2⟩ := lay_readN (z := z.toNat) _ _ _ _ hr (fun m hm => (hc'.2.1 m hm).1)
        rw [List.append_nil] at h1
        obtain ⟨x, y, u, v, hxy⟩ : ∃ x y u v, b.take 4 = [x, y, u, v] := by
          match hh : b.take 4, (show (b.take 4).length = 4 by rw [List.length_take]; omega) with
          | [x, y, u, v], _ => exact ⟨x, y, u, v, rfl⟩
        have hb := num_bound (b.take 4)
        rw [hxy] at hb
        refine ⟨hc, ?_, ?_⟩
        · rw [layM, h2, hxy, four_num, ← hxy, ← h1, List.take_append_drop]
        · rw [h2, hxy]; simpa using hb
      · cases h
    · cases h
end Go.Proofs.Ytpmcpomomagkhaa
