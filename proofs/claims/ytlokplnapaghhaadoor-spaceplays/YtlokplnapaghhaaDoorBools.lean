/- A row of truths that is as a set says. -/
import Derived.Test.YtlokplnapaghhaaDoorAlive
namespace Go.Proofs.YtlokplnapaghhaaDoor
open Go.RowKit

def ucells (U : Nat → Bool) (n : Nat) : Array Value := ((List.range n).map fun i => Value.bool (U i)).toArray
theorem ucells_at {U : Nat → Bool} {n i : Nat} (h : i < n) : (ucells U n)[i]? = some (.bool (U i)) := by simp [ucells, h]
theorem ucells_ext {U V : Nat → Bool} {n : Nat} (h : ∀ i, i < n → U i = V i) : ucells U n = ucells V n := by
  unfold ucells
  congr 1
  apply List.map_congr_left
  intro i hi
  rw [h i (by simpa using hi)]
theorem ucells_set (U : Nat → Bool) (n i : Nat) (x : Bool) : (ucells U n).setIfInBounds i (.bool x) = ucells (fun j => if j = i then x else U j) n := by
  apply Array.ext_getElem?
  intro j
  rw [Array.getElem?_setIfInBounds]
  by_cases hj : j < n
  · rw [ucells_at hj, ucells_at hj]
    by_cases e : i = j
    · subst e; simp [ucells, hj]
    · rw [if_neg e, if_neg (Ne.symm e)]
  · by_cases e : i = j
    · subst e; simp [ucells, hj]
    · rw [if_neg e, Array.getElem?_eq_none (by simp [ucells]; omega), Array.getElem?_eq_none (by simp [ucells]; omega)]
/-- A block of truths. -/
structure RowU (w : World) (g n : Nat) (U : Nat → Bool) : Prop where
  row : w.heap[g]? = some (.cells (ucells U n) 4 (0, 0))
theorem RowU.lt {w : World} {g n : Nat} {U : Nat → Bool} (h : RowU w g n U) : g < w.heap.size := (Array.getElem?_eq_some_iff.1 h.row).1
theorem RowU.cell {w : World} {g n i : Nat} {U : Nat → Bool} (h : RowU w g n U) (hi : i < n) : w.cell? ⟨g, i, none⟩ = some (.bool (U i)) := by
  rw [row_cell h.row, ucells_at hi]
theorem RowU.open {w : World} {g n : Nat} {U : Nat → Bool} (h : RowU w g n U) (i : Nat) : w.frozen? ⟨g, i, none⟩ = false := row_frozen h.row i
theorem RowU.set {w : World} {g n : Nat} {U V : Nat → Bool} (h : RowU w g n U) (i : Nat) (x : Bool) (hV : ∀ j, j < n → V j = if j = i then x else U j) : RowU (w.setCell ⟨g, i, none⟩ (.bool x)) g n V := by
  refine ⟨?_⟩
  rw [heap_set_same _ h.row, ucells_set, ucells_ext hV]
theorem RowU.kept {S : Nat → Prop} {w w' : World} {g n : Nat} {U : Nat → Bool} (h : RowU w g n U) (k : Kept S w w') (hg : ¬ S g) : RowU w' g n U := ⟨by rw [k.block g h.lt hg]; exact h.row⟩
theorem RowU.below {w w' : World} {g n : Nat} {U : Nat → Bool} (h : RowU w g n U) (k : Below w.heap.size w w') : RowU w' g n U := ⟨by rw [k.block g h.lt]; exact h.row⟩
theorem RowU.ext {w : World} {g n : Nat} {U V : Nat → Bool} (h : RowU w g n U) (hV : ∀ j, j < n → V j = U j) : RowU w g n V := ⟨by rw [ucells_ext hV]; exact h.row⟩
theorem infoOz : (Tryd.prog.info? 4).map (fun i => (i.zero, i.size, i.bytes)) = some (some (.bool false), 1, 1) := by kernel_rfl
theorem infoO' : ∃ i, Tryd.prog.info? 4 = some i ∧ i.zero = some (.bool false) ∧ i.size = 1 ∧ i.bytes = 1 := by
  have h := infoOz
  cases hi : Tryd.prog.info? 4 with
  | none => rw [hi] at h; simp at h
  | some i => rw [hi] at h; simp at h; exact ⟨i, rfl, h⟩
theorem madeBools (n : Nat) : (madeCells (Value.cells (.bool false)) (n * 1)).toList = List.replicate n (.bool false) := by
  simp only [madeCells, Value.cells, Nat.mul_one]
  apply List.ext_getElem
  · simp
  · intro i h1 h2
    simp [Nat.mod_one]
theorem own_bools {w : World} {base g n : Nat} (h : w.ownsRow base 4 1 (.slice (some ⟨g, 0, none⟩) n n) n (List.replicate n (.bool false))) : RowU w g n (fun _ => false) := by
  refine ⟨?_⟩
  obtain ⟨hl, hr⟩ := h
  rcases hr with ⟨e, _⟩ | ⟨g', cap, cur, e, _, hg, _, _, hs, ht⟩
  · cases e
  · cases e
    rw [hg, show cur = (List.replicate n (Value.bool false)).toArray by rw [← ht, List.take_of_length_le (by simp [hs])]]
    congr 2
    apply Array.ext_getElem?
    intro j
    by_cases hj : j < n
    · rw [ucells_at hj]; simp [hj]
    · rw [Array.getElem?_eq_none (by simp; omega), Array.getElem?_eq_none (by simp [ucells]; omega)]

theorem cnt_all {U : Nat → Bool} {n : Nat} (h : ∀ j, j < n → U j = true) : cnt U n = n := by
  induction n with
  | zero => rfl
  | succ n ih => rw [cnt, ih (fun j hj => h j (by omega)), h n (by omega)]; rfl
theorem cnt_first (u n : Nat) (h : u ≤ n) : cnt (fun j => decide (j < u)) n = u := by
  obtain ⟨d, rfl⟩ : ∃ d, n = u + d := ⟨n - u, by omega⟩
  rw [cnt_add]
  have h1 : cnt (fun j => decide (j < u)) u = u := cnt_all (fun j hj => by simpa using hj)
  have h2 : cnt (fun j => decide (u + j < u)) d = 0 := by
    have : cnt (fun j => decide (u + j < u)) (0 + d) = cnt (fun j => decide (u + j < u)) 0 := cnt_beyond (fun k _ => by simp) d
    simpa [cnt] using this
  rw [h1, h2, Nat.add_zero]
theorem Sp.new_has (n u j : Nat) : ((Sp.empty n).use 0 u).has j = decide (j < u) := by
  rw [Sp.has_use]
  by_cases h : j < u
  · rw [if_pos (by omega), Sp.has_empty]; simp [h]
  · rw [if_neg (by omega), Sp.has_empty]; simp [h]
theorem Sp.new_used (n u : Nat) (h : u ≤ n) : ((Sp.empty n).use 0 u).used = u := by
  unfold Sp.used
  rw [Sp.use_n, cnt_ext (V := fun j => decide (j < u)) (fun k _ => Sp.new_has n u k)]
  exact cnt_first u n h
theorem Sp.least_is (s : Sp) : IsNx s.has false s.n 0 s.least := s.next_is false (Nat.zero_le _)
theorem Sp.full (s : Sp) (h : ¬ s.least < s.n) : s.used = s.n := cnt_all (fun j hj => by
  have := s.least_is.top
  exact s.least_is.not j (Nat.zero_le _) (by omega))
theorem Sp.used_more {s : Sp} {k : Nat} (hk : k < s.n) (h : s.has k = false) : (s.turn k).used = s.used + 1 :=
  cnt_turn hk (fun m hm => by rw [Sp.has_turn, if_neg hm]) h (by rw [Sp.has_turn, if_pos rfl, h]; rfl)
theorem Sp.used_less {s : Sp} {k : Nat} (hk : k < s.n) (h : s.has k = true) : (s.turn k).used + 1 = s.used :=
  (cnt_turn (U := (s.turn k).has) (V := s.has) hk (fun m hm => by rw [Sp.has_turn, if_neg hm]) (by rw [Sp.has_turn, if_pos rfl, h]; rfl) h).symm
end Go.Proofs.YtlokplnapaghhaaDoor
