/- P16.2 on lists: as many choices as there are children choose each once. -/
import Derived.Test.YtejenfcfngjaaaaPure
namespace Go.Proofs.Ytejenfcfngjaaaa

theorem nextOf_succ {C : List Int} (hr : C.Pairwise (· < ·)) {i : Nat} (hi : i < C.length) : nextOf C (C.getD i 0) = C.getD ((i + 1) % C.length) 0 := by
  have hci : C.getD i 0 = C[i] := by rw [List.getD_eq_getElem?_getD, List.getElem?_eq_getElem hi]; rfl
  rw [hci]
  refine nextOf_at (p := i + 1) hi (fun n y hn hy => ?_) (fun n y hn hy => ?_)
  · obtain ⟨hl, rfl⟩ := List.getElem?_eq_some_iff.1 hy
    rcases Nat.lt_or_eq_of_le (Nat.lt_succ_iff.1 hn) with h | h
    · have := List.pairwise_iff_getElem.1 hr n i hl hi h
      omega
    · subst h; omega
  · obtain ⟨hl, rfl⟩ := List.getElem?_eq_some_iff.1 hy
    have := List.pairwise_iff_getElem.1 hr i n hi hl (by omega)
    omega
theorem getD_inj {C : List Int} (hr : C.Pairwise (· < ·)) {i j : Nat} (hi : i < C.length) (hj : j < C.length) (h : C.getD i 0 = C.getD j 0) : i = j := by
  rw [List.getD_eq_getElem?_getD, List.getD_eq_getElem?_getD, List.getElem?_eq_getElem hi, List.getElem?_eq_getElem hj] at h
  simp only [Option.getD_some] at h
  rcases Nat.lt_trichotomy i j with hl | hl | hl
  · have := List.pairwise_iff_getElem.1 hr i j hi hj hl; omega
  · exact hl
  · have := List.pairwise_iff_getElem.1 hr j i hj hi hl; omega
/-- The k-th of a round that begins at p. -/
def roundAt (C : List Int) (p k : Nat) : Int := C.getD ((p + k) % C.length) 0
theorem round_begin {C : List Int} (hC : C ≠ []) (l : Int) : ∃ p, nextOf C l = roundAt C p 0 := by
  obtain ⟨p, hp, h⟩ := List.getElem_of_mem (nextOf_mem (l := l) hC)
  refine ⟨p, ?_⟩
  rw [← h, roundAt, Nat.add_zero, Nat.mod_eq_of_lt hp, List.getD_eq_getElem?_getD, List.getElem?_eq_getElem hp]
  rfl
theorem round_next {C : List Int} (hC : C ≠ []) (hr : C.Pairwise (· < ·)) (p k : Nat) : nextOf C (roundAt C p k) = roundAt C p (k + 1) := by
  have hl : 0 < C.length := List.length_pos_iff.2 hC
  unfold roundAt
  rw [nextOf_succ hr (Nat.mod_lt _ hl), ← Nat.add_assoc, Nat.mod_add_mod]
theorem round_new {C : List Int} (hr : C.Pairwise (· < ·)) {p k t : Nat} (hk : k < C.length) (ht : t < k) : roundAt C p t ≠ roundAt C p k := fun h => by
  have hl : 0 < C.length := by omega
  have h1 := getD_inj hr (Nat.mod_lt _ hl) (Nat.mod_lt _ hl) h
  have h2 : (p + k) % C.length = (p + t) % C.length := h1.symm
  have h3 : (p + k - (p + t)) % C.length = 0 := Nat.sub_mod_eq_zero_of_mod_eq h2
  have h4 : p + k - (p + t) = k - t := by omega
  rw [h4, Nat.mod_eq_of_lt (by omega)] at h3
  omega
theorem round_mem {C : List Int} (hC : C ≠ []) (p k : Nat) : roundAt C p k ∈ C := getD_mem (Nat.mod_lt _ (List.length_pos_iff.2 hC))
/-- How often each was chosen, behind k choices. -/
structure Times (C : List Int) (p k n : Nat) (T : List Int) : Prop where
  len : T.length = n
  at_ : ∀ (j : Nat) x, T[j]? = some x → x = 0 ∨ x = 1 ∧ ∃ t, t < k ∧ (j : Int) = roundAt C p t
theorem Times.zero (C : List Int) (p n : Nat) : Times C p 0 n (List.replicate n 0) := ⟨by simp, fun j x h => by
  rw [List.getElem?_replicate] at h
  split at h
  · exact .inl (by simpa using h.symm)
  · cases h⟩
theorem Times.free {C : List Int} {p k n : Nat} {T : List Int} (h : Times C p k n T) (hr : C.Pairwise (· < ·)) (hk : k < C.length) {a : Nat} (ha : (a : Int) = roundAt C p k) {x : Int} (hx : T[a]? = some x) : x = 0 := by
  rcases h.at_ a x hx with h | ⟨_, t, ht, e⟩
  · exact h
  · exact absurd (e.symm.trans ha) (round_new hr hk ht)
theorem Times.next {C : List Int} {p k n : Nat} {T : List Int} (h : Times C p k n T) {a : Nat} (ha : (a : Int) = roundAt C p k) : Times C p (k + 1) n (T.set a 1) := ⟨by rw [List.length_set]; exact h.len, fun j x hx => by
  rw [List.getElem?_set] at hx
  split at hx
  · rename_i e
    subst e
    split at hx
    · exact .inr ⟨by simpa using hx.symm, k, by omega, ha⟩
    · cases hx
  · rcases h.at_ j x hx with h | ⟨e, t, ht, e2⟩
    · exact .inl h
    · exact .inr ⟨e, t, by omega, e2⟩⟩
end Go.Proofs.Ytejenfcfngjaaaa
