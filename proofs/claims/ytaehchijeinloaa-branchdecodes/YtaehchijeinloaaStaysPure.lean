/- P6.4 on lists: what Replace leaves alone. -/
import Derived.Test.YtaehchijeinloaaBranch
namespace Go.Proofs.Ytaehchijeinloaa

theorem childK_le (ks : List Key) (k : Key) : childK ks k ≤ ks.length := List.findIdx_le_length
theorem childK_ahead {ks : List Key} {k : Key} {i : Nat} (h : i < childK ks k) (x : Key) (hx : ks[i]? = some x) : x ≤ k := by
  have := List.not_of_lt_findIdx h
  obtain ⟨h1, rfl⟩ := List.getElem?_eq_some_iff.1 hx
  simp at this
  exact this
theorem childK_at {ks : List Key} {k : Key} (x : Key) (hx : ks[childK ks k]? = some x) : k < x := by
  obtain ⟨h1, rfl⟩ := List.getElem?_eq_some_iff.1 hx
  have := List.findIdx_getElem (w := h1)
  exact of_decide_eq_true this
theorem childK_is {ks : List Key} {k : Key} {n : Nat} (hn : n ≤ ks.length) (h1 : ∀ i x, i < n → ks[i]? = some x → x ≤ k) (h2 : ∀ x, ks[n]? = some x → k < x) : childK ks k = n := by
  have hle := childK_le ks k
  rcases Nat.lt_trichotomy (childK ks k) n with h | h | h
  · obtain ⟨x, hx⟩ : ∃ x, ks[childK ks k]? = some x := ⟨ks[childK ks k]'(by omega), List.getElem?_eq_getElem _⟩
    have := h1 _ x h hx
    have := childK_at x hx
    grind
  · exact h
  · obtain ⟨x, hx⟩ : ∃ x, ks[n]? = some x := ⟨ks[n]'(by omega), List.getElem?_eq_getElem _⟩
    have := h2 x hx
    have := childK_ahead h x hx
    grind
theorem rise_lt {ks : List Key} (h : ks.Pairwise (· < ·)) {i j : Nat} {x y : Key} (hij : i < j) (hx : ks[i]? = some x) (hy : ks[j]? = some y) : x < y := by
  obtain ⟨h1, rfl⟩ := List.getElem?_eq_some_iff.1 hx
  obtain ⟨h2, rfl⟩ := List.getElem?_eq_some_iff.1 hy
  exact List.pairwise_iff_getElem.1 h i j h1 h2 hij

theorem repl_get (a b c : List Key) (i : Nat) : (a ++ b ++ c)[i]? = if i < a.length then a[i]? else if i < a.length + b.length then b[i - a.length]? else c[i - a.length - b.length]? := by
  rw [List.getElem?_append]
  split
  · rename_i h
    rw [List.getElem?_append]
    rw [List.length_append] at h
    split
    · rfl
    · rfl
  · rename_i h
    rw [List.length_append] at h
    rw [if_neg (by omega), if_neg (by omega), List.length_append, Nat.sub_sub]

theorem repl_ahead {ks bs : List Key} {k : Key} {i j : Nat} (hi : i < j) (hj : j ≤ ks.length + 1) (hn : childK ks k < i) : childK (ks.take i ++ bs ++ ks.drop (j - 1)) k = childK ks k := by
  have hl : (ks.take i).length = i := by rw [List.length_take]; omega
  refine childK_is (by simp; omega) (fun m x hm hx => ?_) fun x hx => ?_
  · rw [repl_get, hl, if_pos (by omega), List.getElem?_take, if_pos (by omega)] at hx
    exact childK_ahead hm x hx
  · rw [repl_get, hl, if_pos hn, List.getElem?_take, if_pos hn] at hx
    exact childK_at x hx
theorem repl_behind {ks bs : List Key} {k : Key} {i j : Nat} (hi : i < j) (hj : j ≤ ks.length + 1) (hr : (ks.take i ++ bs ++ ks.drop (j - 1)).Pairwise (· < ·)) (hn : j ≤ childK ks k) : childK (ks.take i ++ bs ++ ks.drop (j - 1)) k = i + bs.length + (childK ks k - (j - 1)) := by
  have hl : (ks.take i).length = i := by rw [List.length_take]; omega
  have hle := childK_le ks k
  obtain ⟨y, hy⟩ : ∃ y, ks[j - 1]? = some y := ⟨ks[j - 1]'(by omega), List.getElem?_eq_getElem _⟩
  have hyk := childK_ahead (show j - 1 < childK ks k by omega) y hy
  have hy2 : (ks.take i ++ bs ++ ks.drop (j - 1))[i + bs.length]? = some y := by
    rw [repl_get, hl, if_neg (by omega), if_neg (by omega), List.getElem?_drop, show j - 1 + (i + bs.length - i - bs.length) = j - 1 by omega]; exact hy
  refine childK_is (by simp; omega) (fun m x hm hx => ?_) fun x hx => ?_
  · rcases Nat.lt_trichotomy m (i + bs.length) with h | h | h
    · have := rise_lt hr h hx hy2
      grind
    · subst h
      rw [hy2] at hx
      cases hx
      exact hyk
    · rw [repl_get, hl, if_neg (by omega), if_neg (by omega), List.getElem?_drop] at hx
      exact childK_ahead (by omega) x hx
  · rw [repl_get, hl, if_neg (by omega), if_neg (by omega), List.getElem?_drop, show j - 1 + (i + bs.length + (childK ks k - (j - 1)) - i - bs.length) = childK ks k by omega] at hx
    exact childK_at x hx
theorem repl_within {ks bs : List Key} {k : Key} {i j : Nat} (hi : i < j) (hj : j ≤ ks.length + 1) (hk : ks.Pairwise (· < ·)) (h1 : i ≤ childK ks k) (h2 : childK ks k < j) : i ≤ childK (ks.take i ++ bs ++ ks.drop (j - 1)) k ∧ childK (ks.take i ++ bs ++ ks.drop (j - 1)) k ≤ i + bs.length := by
  have hl : (ks.take i).length = i := by rw [List.length_take]; omega
  have hle := childK_le ks k
  have hle2 := childK_le (ks.take i ++ bs ++ ks.drop (j - 1)) k
  constructor
  · rcases Nat.lt_or_ge (childK (ks.take i ++ bs ++ ks.drop (j - 1)) k) i with h | h
    · exfalso
      obtain ⟨x, hx⟩ : ∃ x, (ks.take i ++ bs ++ ks.drop (j - 1))[childK (ks.take i ++ bs ++ ks.drop (j - 1)) k]? = some x := ⟨_, List.getElem?_eq_getElem (by rw [List.length_append, List.length_append, hl]; omega)⟩
      have h3 := childK_at x hx
      rw [repl_get, hl, if_pos h, List.getElem?_take, if_pos h] at hx
      have := childK_ahead (show childK (ks.take i ++ bs ++ ks.drop (j - 1)) k < childK ks k by omega) x hx
      grind
    · exact h
  · rcases Nat.lt_or_ge (i + bs.length) (childK (ks.take i ++ bs ++ ks.drop (j - 1)) k) with h | h
    · exfalso
      have hln : j - 1 < ks.length := by rw [List.length_append, List.length_append, hl, List.length_drop] at hle2; omega
      obtain ⟨y, hy⟩ : ∃ y, ks[j - 1]? = some y := ⟨ks[j - 1], List.getElem?_eq_getElem hln⟩
      have hy2 : (ks.take i ++ bs ++ ks.drop (j - 1))[i + bs.length]? = some y := by
        rw [repl_get, hl, if_neg (by omega), if_neg (by omega), List.getElem?_drop, show j - 1 + (i + bs.length - i - bs.length) = j - 1 by omega]; exact hy
      have h4 := childK_ahead h y hy2
      obtain ⟨x, hx⟩ : ∃ x, ks[childK ks k]? = some x := ⟨ks[childK ks k]'(by omega), List.getElem?_eq_getElem _⟩
      have h5 := childK_at x hx
      rcases Nat.lt_or_ge (childK ks k) (j - 1) with h6 | h6
      · have := rise_lt hk h6 hx hy
        grind
      · have : childK ks k = j - 1 := by omega
        rw [this, hy] at hx
        cases hx
        grind
    · exact h
/-- P6.4. -/
theorem repl_child {z : Int} {d b : Kd} {k : Key} {i j : Nat} (hc : checkK z d = 0) (hb : b.fit = true) (hi : i < j) (hj : j ≤ d.ps.length) (hr : checkK z (replK d i j b) = 0) :
    (childK d.ks k < i → childK (replK d i j b).ks k = childK d.ks k) ∧
    (j ≤ childK d.ks k → (childK (replK d i j b).ks k : Int) = childK d.ks k - (j - i) + b.ps.length) ∧
    (i ≤ childK d.ks k → childK d.ks k < j → i ≤ childK (replK d i j b).ks k ∧ childK (replK d i j b).ks k < i + b.ps.length) := by
  have hf := (fit_iff.1 (checkK_ok hc).2.2.1).2
  have hbf := (fit_iff.1 hb).2
  have hrk := rise_iff.1 (checkK_ok hc).2.2.2.2.2.1
  have hrr := rise_iff.1 (checkK_ok hr).2.2.2.2.2.1
  refine ⟨fun h => repl_ahead hi (by omega) h, fun h => ?_, fun h1 h2 => ?_⟩
  · have := repl_behind hi (by omega) hrr h
    show (childK (d.ks.take i ++ b.ks ++ d.ks.drop (j - 1)) k : Int) = _
    rw [this]
    omega
  · have := repl_within (bs := b.ks) hi (by omega) hrk h1 h2
    show i ≤ childK (d.ks.take i ++ b.ks ++ d.ks.drop (j - 1)) k ∧ childK (d.ks.take i ++ b.ks ++ d.ks.drop (j - 1)) k < _
    omega
theorem repl_self {d : Kd} {i j : Nat} (hf : d.fit = true) (hi : i < j) (hj : j ≤ d.ps.length) : replK d i j ⟨(d.ps.drop i).take (j - i), (d.ks.drop i).take (j - 1 - i)⟩ = d := by
  have hl := (fit_iff.1 hf).2
  have key : ∀ {α : Type} (l : List α) (a b : Nat), a ≤ b → l.take a ++ (l.drop a).take (b - a) ++ l.drop b = l := fun l a b h => by
    rw [List.append_assoc]
    have : (l.drop a).take (b - a) ++ l.drop b = l.drop a := by
      have := List.take_append_drop (b - a) (l.drop a)
      rw [List.drop_drop, show a + (b - a) = b by omega] at this
      exact this
    rw [this, List.take_append_drop]
  cases d
  simp only [replK, Kd.mk.injEq]
  exact ⟨key _ i j (by omega), key _ i (j - 1) (by omega)⟩
end Go.Proofs.Ytaehchijeinloaa
