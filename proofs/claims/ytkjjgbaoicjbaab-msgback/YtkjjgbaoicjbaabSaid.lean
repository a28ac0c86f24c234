/- Ranges that were said, in a row of new memory. -/
import Derived.Test.YtkjjgbaoicjbaabRepeat
import Derived.Deep.AppendLies
namespace Go.Proofs.Ytkjjgbaoicjbaab
open Go.RowKit

def flatR (Q : List (Value × Value)) : List Value := Q.flatMap fun q => [q.1, q.2, .bool false]
theorem flatR_cons (q : Value × Value) (Q : List (Value × Value)) : flatR (q :: Q) = q.1 :: q.2 :: .bool false :: flatR Q := rfl
theorem flatR_length (Q : List (Value × Value)) : (flatR Q).length = Q.length * 3 := by
  induction Q with
  | nil => rfl
  | cons e L ih => rw [flatR_cons]; simp [ih]; omega
theorem flatR_get (Q : List (Value × Value)) (i : Nat) (q : Value × Value) (h : Q[i]? = some q) : (flatR Q)[i * 3]? = some q.1 ∧ (flatR Q)[i * 3 + 1]? = some q.2 ∧ (flatR Q)[i * 3 + 2]? = some (.bool false) := by
  induction Q generalizing i with
  | nil => simp at h
  | cons x L ih =>
    rw [flatR_cons]
    cases i with
    | zero => simp at h; subst h; exact ⟨rfl, rfl, rfl⟩
    | succ i =>
      have := ih i (by simpa using h)
      rw [show (i + 1) * 3 = i * 3 + 1 + 1 + 1 by omega, show i * 3 + 1 + 1 + 1 + 2 = i * 3 + 2 + 1 + 1 + 1 by omega]
      simp only [List.getElem?_cons_succ]
      exact this
theorem flatR_set (Q : List (Value × Value)) (i : Nat) (q : Value × Value) (h : i < Q.length) : flatR (Q.set i q) = (((flatR Q).set (i * 3) q.1).set (i * 3 + 1) q.2).set (i * 3 + 2) (.bool false) := by
  induction Q generalizing i with
  | nil => simp at h
  | cons x L ih =>
    cases i with
    | zero => rfl
    | succ i =>
      rw [List.set_cons_succ, flatR_cons, ih i (by simpa using h), flatR_cons, show (i + 1) * 3 = i * 3 + 1 + 1 + 1 by omega, show i * 3 + 1 + 1 + 1 + 1 = i * 3 + 1 + 1 + 1 + 1 from rfl, show i * 3 + 1 + 1 + 1 + 2 = i * 3 + 2 + 1 + 1 + 1 by omega]
      simp only [List.set_cons_succ]
/-- A block that holds just these ranges. -/
structure RowR (w : World) (g : Nat) (Q : List (Value × Value)) : Prop where
  row : w.heap[g]? = some (.cells (flatR Q).toArray 25 (0, 0))
theorem RowR.lt {w : World} {g : Nat} {Q : List (Value × Value)} (h : RowR w g Q) : g < w.heap.size := (Array.getElem?_eq_some_iff.1 h.row).1
theorem RowR.cells {w : World} {g i : Nat} {Q : List (Value × Value)} {q : Value × Value} (h : RowR w g Q) (hi : Q[i]? = some q) : w.cell? ⟨g, i * 3, none⟩ = some q.1 ∧ w.cell? ⟨g, i * 3 + 1, none⟩ = some q.2 ∧ w.cell? ⟨g, i * 3 + 2, none⟩ = some (.bool false) := by
  obtain ⟨a, b, c⟩ := flatR_get Q i q hi
  rw [row_cell h.row, row_cell h.row, row_cell h.row]
  simp only [List.getElem?_toArray]
  exact ⟨a, b, c⟩
theorem RowR.open {w : World} {g : Nat} {Q : List (Value × Value)} (h : RowR w g Q) (i : Nat) : w.frozen? ⟨g, i, none⟩ = false := row_frozen h.row i
theorem RowR.here {w w' : World} {g : Nat} {Q : List (Value × Value)} (h : RowR w g Q) (hb : Below w.heap.size w w') : RowR w' g Q := ⟨by rw [hb.block g h.lt]; exact h.row⟩
theorem RowR.keep {T B : Nat} {w w' : World} {g : Nat} {Q : List (Value × Value)} (h : RowR w g Q) (hk : Keep T B w w') (hT : 25 ≠ T) : RowR w' g Q := ⟨hk.typ _ _ _ _ hT h.row⟩
def putR (w : World) (g i : Nat) (v1 v2 : Value) : World := ((w.setCell ⟨g, i * 3, none⟩ v1).setCell ⟨g, i * 3 + 1, none⟩ v2).setCell ⟨g, i * 3 + 2, none⟩ (.bool false)
theorem RowR.put {w : World} {g i : Nat} {Q : List (Value × Value)} (h : RowR w g Q) (v1 v2 : Value) (hi : i < Q.length) : RowR (putR w g i v1 v2) g (Q.set i (v1, v2)) := by
  refine ⟨?_⟩
  unfold putR
  rw [heap_set_same _ (heap_set_same _ (heap_set_same _ h.row)), flatR_set Q i _ hi]
  simp
theorem putR_keep {B : Nat} {w : World} {g i : Nat} {Q : List (Value × Value)} (h : RowR w g Q) (v1 v2 : Value) (hB : B ≤ g) : Keep 25 B w (putR w g i v1 v2) :=
  (keep_set h.row hB _).trans ((keep_set (heap_set_same _ h.row) hB _).trans (keep_set (heap_set_same _ (heap_set_same _ h.row)) hB _))
theorem infoRz : (Try.prog.info? 25).map (fun i => (i.zero, i.size, i.bytes)) = some (some (.agg #[.slice none 0 0, .slice none 0 0, .bool false]), 3, 56) := by kernel_rfl
theorem infoR' : ∃ i, Try.prog.info? 25 = some i ∧ i.zero = some (.agg #[.slice none 0 0, .slice none 0 0, .bool false]) ∧ i.size = 3 ∧ i.bytes = 56 := by
  have h := infoRz
  cases hi : Try.prog.info? 25 with
  | none => rw [hi] at h; simp at h
  | some i => rw [hi] at h; simp at h; exact ⟨i, rfl, h⟩
theorem infoBz : (Try.prog.info? 23).map (fun i => (i.zero, i.size, i.bytes)) = some (some (.slice none 0 0), 1, 24) := by kernel_rfl
theorem infoB' : ∃ i, Try.prog.info? 23 = some i ∧ i.zero = some (.slice none 0 0) ∧ i.size = 1 ∧ i.bytes = 24 := by
  have h := infoBz
  cases hi : Try.prog.info? 23 with
  | none => rw [hi] at h; simp at h
  | some i => rw [hi] at h; simp at h; exact ⟨i, rfl, h⟩
def nilR : Value × Value := (.slice none 0 0, .slice none 0 0)
theorem madeRanges (n : Nat) : (madeCells (Value.cells (.agg #[.slice none 0 0, .slice none 0 0, .bool false])) (n * 3)).toList = flatR (List.replicate n nilR) := by
  apply List.ext_getElem?
  intro j
  by_cases hj : j < n * 3
  · obtain ⟨i, m, hm, rfl⟩ : ∃ i m, m < 3 ∧ j = i * 3 + m := ⟨j / 3, j % 3, Nat.mod_lt _ (by decide), by omega⟩
    obtain ⟨a, b, c⟩ := flatR_get (List.replicate n nilR) i nilR (by rw [List.getElem?_replicate, if_pos (by omega)])
    have e2 : (i * 3 + m) % 3 = m := by omega
    match m, hm with
    | 0, _ => rw [Nat.add_zero, a]; simp [madeCells, Value.cells, show i * 3 < n * 3 by omega, nilR]
    | 1, _ => rw [b]; simp [madeCells, Value.cells, show i * 3 + 1 < n * 3 by omega, nilR, show (i * 3 + 1) % 3 = 1 by omega]
    | 2, _ => rw [c]; simp [madeCells, Value.cells, show i * 3 + 2 < n * 3 by omega, show (i * 3 + 2) % 3 = 2 by omega]
  · rw [List.getElem?_eq_none (by simp [madeCells]; omega), List.getElem?_eq_none (by rw [flatR_length]; simp; omega)]
theorem keep_grown {base T s n : Nat} {w w' : World} {v : Value} {xs : List Value} (hv : w.ownsRow base T s v n xs) (hg : w.grownBy w' v.ownBlock) (hB : base ≤ w.heap.size) : Keep T base w w' := by
  refine ⟨(Below.refl _ _).grown hg hB (fun k e => (own_type hv k e).2.1), fun k cur t z ht hk => ?_⟩
  obtain ⟨_, _, _, _, hbl⟩ := hg
  rw [hbl k (Array.getElem?_eq_some_iff.1 hk).1]
  · exact hk
  · intro e
    obtain ⟨_, _, cur', h'⟩ := own_type hv k e.symm
    rw [hk] at h'
    simp only [Option.some.injEq, Obj.cells.injEq] at h'
    exact ht h'.2.1
theorem endsM_take {M : List Ms} {k : Nat} {m : Ms} (h : M[k]? = some m) : endsM (M.take (k + 1)) = endsM (M.take k) ++ (if m.rg.empty then [] else [m.rg.lo, m.rg.hi]) := by
  rw [List.take_add_one, h]; simp [endsM]
theorem endsM_length (M : List Ms) : (endsM M).length ≤ 2 * M.length := by
  induction M with
  | nil => simp [endsM]
  | cons m r ih =>
    have e : endsM (m :: r) = (if m.rg.empty then [] else [m.rg.lo, m.rg.hi]) ++ endsM r := rfl
    have h2 : (if m.rg.empty then [] else [m.rg.lo, m.rg.hi] : List Key).length ≤ 2 := by split <;> simp
    rw [e, List.length_append, List.length_cons]
    omega
/-- How far the first loop has come. -/
structure SaidTo (w wx : World) (M : List Ms) (k gs : Nat) (Q : List (Value × Value)) (cv : Value) (CL : List Kc) : Prop where
  row : RowR wx gs (Q ++ List.replicate (M.length - k) nilR)
  len : Q.length = k
  gs : w.heap.size ≤ gs
  keys : ∀ (i : Nat) (q : Value × Value) (m : Ms), Q[i]? = some q → M[i]? = some m → KeyK w.heap.size wx q.1 m.rg.lo ∧ KeyK w.heap.size wx q.2 m.rg.hi
  own : wx.ownsRow w.heap.size 23 1 cv CL.length (CL.map Kc.v)
  ends : keysOf CL = endsM (M.take k)
  ok : ∀ e ∈ CL, KeyK w.heap.size wx e.v e.k
  low : Below w.heap.size w wx
end Go.Proofs.Ytkjjgbaoicjbaab
