/- Rows of new memory: what stays while they grow. -/
import Derived.Test.YtpmcpomomagkhaaCopied
import Derived.Deep.AppendLies
namespace Go.Proofs.Ytpmcpomomagkhaa
open Go.RowKit

theorem keep_grown {base T s n : Nat} {w w' : World} {v : Value} {xs : List Value} (hv : w.ownsRow base T s v n xs) (hg : w.grownBy w' v.ownBlock) (hB : base ≤ w.heap.size) : Keep T base w w' := by
  refine ⟨(Below.refl _ _).grown hg hB (fun k e => (own_type hv k e).2.1), fun k cur t z ht hk => ?_⟩
  obtain ⟨_, _, _, _, hbl⟩ := hg
  rw [hbl k (Array.getElem?_eq_some_iff.1 hk).1]
  · exact hk
  · intro e
    obtain ⟨_, _, cur', h'⟩ := own_type hv k e.symm
    rw [hk] at h'
    simp only [Option.some.injEq, Obj.cells.injEq] at h'
    exact ht h'.2.1
theorem own_keep {base T s n T' : Nat} {w w' : World} {v : Value} {xs : List Value} (h : w.ownsRow base T s v n xs) {B : Nat} (hk : Keep T' B w w') (hT : T ≠ T') : w'.ownsRow base T s v n xs :=
  own_same h fun b hb _ => by
    obtain ⟨_, _, cur, hc⟩ := own_type h b hb
    rw [hc]; exact hk.typ _ _ _ _ hT hc
theorem own_form' {w : World} {base n s : Nat} {T : TypeId} {v : Value} {xs : List Value} (h : w.ownsRow base T s v n xs) : ∃ a c, v = .slice a n c := by
  obtain ⟨_, ⟨e, h0⟩ | ⟨g, cap, cur, e, _⟩⟩ := h
  · exact ⟨_, _, by rw [e, h0]⟩
  · exact ⟨_, _, e⟩
theorem Keep.draws {T B : Nat} {a w : World} (h : Keep T B a w) (n : Nat) : Keep T B a (w.drewN n) := ⟨below_draws h.low n, h.typ⟩
theorem KeyK.draws {base : Nat} {w : World} {v : Value} {k : Key} (h : KeyK base w v k) (n : Nat) : KeyK base (w.drewN n) v k := by
  rcases h.is with h | h
  · exact ⟨.inl (h.below (below_draws (Below.refl _ _) n))⟩
  · exact ⟨.inr (h.here (below_draws (Below.refl _ _) n))⟩
theorem wrapk_nat (j : Nat) (h : j ≤ 9223372036854775807) : IntKind.i64.wrap (j : Int) = (j : Int) := by
  simp [IntKind.wrap, IntKind.bits, IntKind.signed]; omega
theorem infoBz : (Try.prog.info? 32).map (fun i => (i.zero, i.size, i.bytes)) = some (some (.slice none 0 0), 1, 24) := by kernel_rfl
theorem infoB' : ∃ i, Try.prog.info? 32 = some i ∧ i.zero = some (.slice none 0 0) ∧ i.size = 1 ∧ i.bytes = 24 := by
  have h := infoBz
  cases hi : Try.prog.info? 32 with
  | none => rw [hi] at h; simp at h
  | some i => rw [hi] at h; simp at h; exact ⟨i, rfl, h⟩
def encI (p : Int) : Value := .int .i64 p
theorem infoIz : (Try.prog.info? 3).map (fun i => (i.zero, i.size, i.bytes)) = some (some (.int .i64 0), 1, 8) := by kernel_rfl
theorem infoI' : ∃ i, Try.prog.info? 3 = some i ∧ i.zero = some (.int .i64 0) ∧ i.size = 1 ∧ i.bytes = 8 := by
  have h := infoIz
  cases hi : Try.prog.info? 3 with
  | none => rw [hi] at h; simp at h
  | some i => rw [hi] at h; simp at h; exact ⟨i, rfl, h⟩
theorem madeInts (n : Nat) : (madeCells (Value.cells (.int .i64 0)) (n * 1)).toList = List.replicate n (.int .i64 0) := by
  simp only [madeCells, Value.cells, Nat.mul_one]
  apply List.ext_getElem
  · simp
  · intro i h1 h2
    simp [Nat.mod_one]
structure RowI (w : World) (g : Nat) (xs : List Int) : Prop where
  row : w.heap[g]? = some (.cells (xs.map encI).toArray 3 (0, 0))
theorem RowI.lt {w : World} {g : Nat} {xs : List Int} (h : RowI w g xs) : g < w.heap.size := (Array.getElem?_eq_some_iff.1 h.row).1
theorem RowI.cell {w : World} {g i : Nat} {xs : List Int} {x : Int} (h : RowI w g xs) (hi : xs[i]? = some x) : w.cell? ⟨g, i, none⟩ = some (.int .i64 x) := by
  rw [row_cell h.row]; simp [hi, encI]
theorem RowI.open {w : World} {g : Nat} {xs : List Int} (h : RowI w g xs) (i : Nat) : w.frozen? ⟨g, i, none⟩ = false := row_frozen h.row i
theorem RowI.set {w : World} {g : Nat} {xs : List Int} (h : RowI w g xs) (i : Nat) (x : Int) : RowI (w.setCell ⟨g, i, none⟩ (.int .i64 x)) g (xs.set i x) := by
  refine ⟨?_⟩
  rw [heap_set_same _ h.row, List.setIfInBounds_toArray]
  simp [List.map_set, encI]
theorem RowI.block {w w' : World} {g : Nat} {xs : List Int} (h : RowI w g xs) (hb : w'.heap[g]? = w.heap[g]?) : RowI w' g xs := ⟨by rw [hb]; exact h.row⟩
theorem RowI.here {w w' : World} {g : Nat} {xs : List Int} (h : RowI w g xs) (hb : Below w.heap.size w w') : RowI w' g xs := h.block (hb.block g h.lt)
end Go.Proofs.Ytpmcpomomagkhaa
