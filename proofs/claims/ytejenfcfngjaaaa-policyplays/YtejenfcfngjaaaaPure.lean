/- What choosers choose, on lists. -/
import Derived.Test.YtejenfcfngjaaaaChecked
namespace Go.Proofs.Ytejenfcfngjaaaa

/-- The children among the first k that may be chosen. -/
def mayI (W : List Int) (k : Nat) : List Int := ((List.range k).filter fun i => decide (0 < W.getD i 0)).map fun (i : Nat) => (i : Int)
theorem mayI_zero (W : List Int) : mayI W 0 = [] := rfl
theorem mayI_yes {W : List Int} {k : Nat} {e : Int} (h : W[k]? = some e) (he : 0 < e) : mayI W (k + 1) = mayI W k ++ [(k : Int)] := by
  unfold mayI
  rw [List.range_succ, List.filter_append, List.map_append]
  simp [h, he]
theorem mayI_no {W : List Int} {k : Nat} {e : Int} (h : W[k]? = some e) (he : ¬ 0 < e) : mayI W (k + 1) = mayI W k := by
  unfold mayI
  rw [List.range_succ, List.filter_append, List.map_append]
  have h2 : e ≤ 0 := by omega
  simp [h, h2]
theorem mayI_len (W : List Int) (k : Nat) : (mayI W k).length ≤ k := by
  unfold mayI
  rw [List.length_map]
  exact Nat.le_trans (List.length_filter_le _ _) (by simp)
theorem mayI_mem {W : List Int} {k : Nat} {x : Int} (h : x ∈ mayI W k) : ∃ i : Nat, x = (i : Int) ∧ i < k ∧ 0 < W.getD i 0 := by
  unfold mayI at h
  obtain ⟨i, hi, rfl⟩ := List.mem_map.1 h
  rw [List.mem_filter] at hi
  exact ⟨i, rfl, by simpa using hi.1, by simpa using hi.2⟩
theorem mayI_in {W : List Int} {k i : Nat} (h : i < k) (hp : 0 < W.getD i 0) : (i : Int) ∈ mayI W k := by
  unfold mayI
  refine List.mem_map.2 ⟨i, ?_, rfl⟩
  rw [List.mem_filter]
  exact ⟨by simpa using h, by simpa using hp⟩
theorem mayI_rise (W : List Int) (k : Nat) : (mayI W k).Pairwise (· < ·) := by
  unfold mayI
  rw [List.pairwise_map]
  refine List.Pairwise.imp ?_ ((List.pairwise_lt_range (n := k)).filter _)
  intro a b h
  omega
/-- A list of children: each is one, by rising numbers. -/
structure Cands (W C : List Int) : Prop where
  mem : ∀ x ∈ C, ∃ i : Nat, x = (i : Int) ∧ i < W.length ∧ 0 < W.getD i 0
  rise : C.Pairwise (· < ·)
  len : C.length ≤ W.length
theorem cands_may (W : List Int) : Cands W (mayI W W.length) := ⟨fun _ h => mayI_mem h, mayI_rise _ _, mayI_len _ _⟩

def wt (W : List Int) (x : Int) : Int := W.getD x.toNat 0
def better (W : List Int) (m x : Int) : Int := if wt W m < wt W x then x else m
/-- The best of the first k. -/
def bestTo (W C : List Int) (k : Nat) : Int := (C.take k).foldl (better W) (C.headD 0)
theorem bestTo_next {W C : List Int} {k : Nat} {x : Int} (h : C[k]? = some x) : bestTo W C (k + 1) = better W (bestTo W C k) x := by
  unfold bestTo
  rw [List.take_add_one, h, List.foldl_append]
  rfl
theorem bestTo_one {W C : List Int} : bestTo W C 1 = C.headD 0 := by
  unfold bestTo
  cases C with
  | nil => rfl
  | cons c C => simp [better]
theorem bestTo_zero {W C : List Int} : bestTo W C 0 = C.headD 0 := rfl
theorem bestTo_mem {W C : List Int} {k : Nat} (hC : C ≠ []) : bestTo W C k ∈ C := by
  induction k with
  | zero => rw [bestTo_zero]; cases C with
    | nil => exact absurd rfl hC
    | cons c C => simp
  | succ k ih =>
    cases h : C[k]? with
    | none =>
      have hk : C.length ≤ k := by simpa using h
      unfold bestTo at ih ⊢
      rw [List.take_of_length_le (by omega)]
      rw [List.take_of_length_le hk] at ih
      exact ih
    | some x =>
      rw [bestTo_next h]
      unfold better
      split
      · exact List.mem_of_getElem? h
      · exact ih
/-- The first one above a number, or the first of all. -/
def nextOf (C : List Int) (l : Int) : Int := (C.find? fun x => decide (l < x)).getD (C.headD 0)
def fold (p : Int) : Int := if p < 0 then -(p + 1) else p
/-- A chooser. -/
structure Ch where
  kind : Int
  picks : List Int
  last : Int
  count : Nat
def Ch.pick (c : Ch) : Int := c.picks.getD (c.count % c.picks.length) 0
/-- What is chosen, of the children C. -/
def Ch.chosen (c : Ch) (W C : List Int) : Int :=
  if c.kind = 2 then nextOf C c.last
  else if c.kind = 4 ∧ c.picks ≠ [] then C.getD ((fold c.pick).toNat % C.length) 0
  else bestTo W C C.length
theorem getD_mem {C : List Int} {i : Nat} (h : i < C.length) : C.getD i 0 ∈ C := by
  rw [List.getD_eq_getElem?_getD, List.getElem?_eq_getElem h]
  exact List.getElem_mem h
theorem nextOf_mem {C : List Int} {l : Int} (hC : C ≠ []) : nextOf C l ∈ C := by
  unfold nextOf
  cases h : C.find? fun x => decide (l < x) with
  | none => cases C with
    | nil => exact absurd rfl hC
    | cons c C => simp
  | some x => exact List.mem_of_find?_eq_some h
theorem Ch.chosen_mem (c : Ch) {W C : List Int} (hC : C ≠ []) : c.chosen W C ∈ C := by
  unfold Ch.chosen
  have hl : 0 < C.length := List.length_pos_iff.2 hC
  split
  · exact nextOf_mem hC
  split
  · exact getD_mem (Nat.mod_lt _ hl)
  · exact bestTo_mem hC
/-- Whether a policy may be. -/
def okP (kind : Int) (picks : List Int) : Bool := decide (1 ≤ kind) && decide (kind ≤ 4) && (decide (picks.length = 0) || decide (kind = 4) && decide (picks.length ≤ 65536))
/-- A chooser that may be. -/
structure Ch.Ok (c : Ch) : Prop where
  may : okP c.kind c.picks = true
  lo : -1 ≤ c.last
  hi : c.last ≤ 20000000000000
  many : c.count ≤ 4000000000000000000
  pick : ∀ p ∈ c.picks, -9223372036854775808 ≤ p ∧ p ≤ 9223372036854775807
/-- A choice. -/
def Ch.step (c : Ch) (W : List Int) : Ch := { c with last := c.chosen W (mayI W W.length), count := c.count + 1 }
theorem nextOf_at {C : List Int} {l : Int} {p : Nat} (hp : p ≤ C.length) (h1 : ∀ n y, n < p → C[n]? = some y → y < l + 1) (h2 : ∀ n y, p ≤ n → C[n]? = some y → l + 1 ≤ y) : nextOf C l = C.getD (p % C.length) 0 := by
  unfold nextOf
  by_cases hl : p < C.length
  · rw [Nat.mod_eq_of_lt hl]
    have hf : C.find? (fun x => decide (l < x)) = some C[p] := by
      rw [List.find?_eq_some_iff_getElem]
      refine ⟨?_, p, hl, rfl, fun j hj => ?_⟩
      · have := h2 p _ (Nat.le_refl _) (List.getElem?_eq_getElem hl)
        simp; omega
      · have := h1 j _ hj (List.getElem?_eq_getElem (by omega))
        simp; omega
    rw [hf, List.getD_eq_getElem?_getD, List.getElem?_eq_getElem hl]
    rfl
  · obtain rfl : p = C.length := by omega
    rw [Nat.mod_self]
    have hf : C.find? (fun x => decide (l < x)) = none := by
      rw [List.find?_eq_none]
      intro x hx
      obtain ⟨n, hn, rfl⟩ := List.getElem_of_mem hx
      have := h1 n _ hn (List.getElem?_eq_getElem hn)
      simp; omega
    rw [hf]
    cases C <;> rfl
end Go.Proofs.Ytejenfcfngjaaaa
