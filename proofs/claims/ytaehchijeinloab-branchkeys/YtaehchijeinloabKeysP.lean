/- What P6.3 says, on lists. -/
import Derived.Test.YtaehchijeinloabSpan
import Derived.Test.YtaehchijeinloabUnite
namespace Go.Proofs.Ytaehchijeinloab
open Go.RowKit

theorem childK_iff {ks : List Key} {key : Key} {i : Nat} (hr : riseK ks = true) (hi : i ≤ ks.length) : childK ks key = i ↔ (∀ x, 0 < i → ks[i - 1]? = some x → x ≤ key) ∧ ∀ x, ks[i]? = some x → key < x := by
  have hp := rise_iff.1 hr
  unfold childK
  constructor
  · intro h
    refine ⟨fun x h0 hx => ?_, fun x hx => ?_⟩
    · have hl := (List.getElem?_eq_some_iff.1 hx).1
      have := List.not_of_lt_findIdx (p := fun x => decide (key < x)) (xs := ks) (i := i - 1) (by omega)
      rw [List.getElem?_eq_getElem hl] at hx
      cases hx
      simpa using this
    · have hl := (List.getElem?_eq_some_iff.1 hx).1
      have := List.findIdx_getElem (p := fun x => decide (key < x)) (xs := ks) (w := by rw [h]; exact hl)
      simp only [h] at this
      rw [List.getElem?_eq_getElem hl] at hx
      cases hx
      simpa using this
  · rintro ⟨h1, h2⟩
    have hlow : ∀ j (hj : j < i), ¬ key < ks[j]'(by omega) := fun j hj hlt => by
      have e1 : ks[i - 1]? = some (ks[i - 1]'(by omega)) := List.getElem?_eq_getElem _
      have h3 := h1 _ (by omega) e1
      by_cases hji : j = i - 1
      · subst hji
        exact absurd hlt (List.not_lt.2 h3)
      · have h4 := List.pairwise_iff_getElem.1 hp j (i - 1) (by omega) (by omega) (by omega)
        exact absurd (List.lt_trans hlt h4) (List.not_lt.2 h3)
    by_cases hil : i < ks.length
    · rw [List.findIdx_eq hil]
      refine ⟨by simpa using h2 _ (List.getElem?_eq_getElem hil), fun j hj => ?_⟩
      simpa using hlow j hj
    · have : i = ks.length := by omega
      rw [this]
      exact List.findIdx_eq_length.2 fun x hx => by
        obtain ⟨j, hj, rfl⟩ := List.getElem_of_mem hx
        simpa using hlow j (by omega)
theorem own_has {d : Kd} {key : Key} {i : Nat} (hr : riseK d.ks = true) (hi : i ≤ d.ks.length) : (ownR d i).has key = decide (childK d.ks key = i) := by
  rw [Bool.eq_iff_iff, decide_eq_true_eq, childK_iff hr hi]
  have hn := Rg.nil_le key
  unfold ownR Rg.has
  by_cases h0 : 0 < i
  · obtain ⟨x, hx⟩ : ∃ x, d.ks[i - 1]? = some x := ⟨_, List.getElem?_eq_getElem (by omega)⟩
    by_cases h1 : i < d.ks.length
    · simp [h0, h1, hx]
    · simp [h0, h1, hx]
  · by_cases h1 : i < d.ks.length
    · simp [h0, h1]
    · simp [h0, h1]
/-- All children's ranges. -/
def spansR (d : Kd) (r : Rg) (n : Nat) : List Rg := (List.range n).map fun i => r.meet (ownR d i)
theorem spans_in {d : Kd} {r : Rg} (hr : riseK d.ks = true) (hf : d.ks.length + 1 = d.ps.length) (k : Key) : Rg.In (spansR d r d.ps.length) k ↔ Rg.In [r] k := by
  rw [Rg.in_one]
  constructor
  · rintro ⟨x, hx, hk⟩
    obtain ⟨i, hi, rfl⟩ := List.mem_map.1 hx
    rw [Rg.has_meet, Bool.and_eq_true] at hk
    exact hk.1
  · intro hk
    have hc : childK d.ks k ≤ d.ks.length := List.findIdx_le_length
    refine ⟨_, List.mem_map.2 ⟨childK d.ks k, List.mem_range.2 (by omega), rfl⟩, ?_⟩
    rw [Rg.has_meet, hk, own_has hr hc]
    simp
theorem spans_cover {d : Kd} {r : Rg} (hr : riseK d.ks = true) (hf : d.ks.length + 1 = d.ps.length) : Rg.cover (spansR d r d.ps.length) = Rg.cover [r] :=
  Rg.canon_unique (Rg.cover_spec _).1 (Rg.cover_spec _).1 fun k => by rw [(Rg.cover_spec _).2 k, (Rg.cover_spec _).2 k, spans_in hr hf]
end Go.Proofs.Ytaehchijeinloab
