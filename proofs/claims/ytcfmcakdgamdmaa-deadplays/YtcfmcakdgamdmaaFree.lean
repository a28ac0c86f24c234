/- Free. -/
import Derived.Test.YtcfmcakdgamdmaaNeeds
namespace Go.Proofs.Ytcfmcakdgamdmaa
open Go.RowKit

/-- What slices.Sort leaves. -/
structure SortPost (base : Nat) (w : World) (v : Value) (S : List Int) (e : Ending) (w' : World) : Prop where
  is : ∃ T : List Int, e = .returned (.tuple #[]) ∧ T.Perm S ∧ T.Pairwise (· ≤ ·) ∧ NewU base w' v T ∧ Below base w w'
def SortOk (n : Nat) : Prop := ∀ (base : Nat) (w : World) (v : Value) (S : List Int), NewU base w v S → S.length = n → base ≤ w.heap.size → Calls Try.prog 33 #[v] w fun e w' => SortPost base w v S e w'
theorem any_perm {T S : List Int} (h : T.Perm S) (x : Lf) : anyL T x = anyL S x := by
  unfold anyL
  rw [Bool.eq_iff_iff, List.any_eq_true, List.any_eq_true]
  exact ⟨fun ⟨g, hg, hn⟩ => ⟨g, h.mem_iff.1 hg, hn⟩, fun ⟨g, hg, hn⟩ => ⟨g, h.mem_iff.2 hg, hn⟩⟩
/-- The row while lives are taken out. -/
structure FreeInv (cur : Array Value) (L : List Lf) (k : Nat) (M : List Lf) (c : Nat) : Prop where
  size : cur.size = c * 3
  low : cur.toList.take (M.length * 3) = flatL M
  high : (cur.toList.drop (k * 3)).take ((L.length - k) * 3) = flatL (L.drop k)
  le : M.length ≤ k
theorem FreeInv.cell {cur : Array Value} {L : List Lf} {k : Nat} {M : List Lf} {c : Nat} {y : Lf} (h : FreeInv cur L k M c) (hy : L[k]? = some y) : cur[k * 3]? = some (.int .i64 y.p) ∧ cur[k * 3 + 1]? = some (.int .u64 y.b) ∧ cur[k * 3 + 2]? = some (.int .u64 y.d) := by
  have hl := (List.getElem?_eq_some_iff.1 hy).1
  obtain ⟨f1, f2, f3⟩ := flatL_at (k := 0) (L := L.drop k) (x := y) (by rw [List.getElem?_drop]; exact hy)
  rw [← h.high, List.getElem?_take, List.getElem?_drop] at f1 f2 f3
  rw [if_pos (by omega), Array.getElem?_toList] at f1 f2 f3
  exact ⟨by simpa using f1, by simpa using f2, by simpa using f3⟩
theorem FreeInv.skip {cur : Array Value} {L : List Lf} {k : Nat} {M : List Lf} {c : Nat} (h : FreeInv cur L k M c) (hk : k < L.length) : FreeInv cur L (k + 1) M c := by
  refine ⟨h.size, h.low, ?_, Nat.le_succ_of_le h.le⟩
  have := congrArg (List.drop 3) h.high
  rw [List.drop_take, List.drop_drop] at this
  rw [show (k + 1) * 3 = k * 3 + 3 by omega, show (L.length - (k + 1)) * 3 = (L.length - k) * 3 - 3 by omega, this]
  rw [show L.drop (k + 1) = (L.drop k).drop 1 by rw [List.drop_drop]]
  rw [flatL_drop (L.drop k) 1]
theorem FreeInv.put {cur : Array Value} {L : List Lf} {k : Nat} {M : List Lf} {c : Nat} {y : Lf} (h : FreeInv cur L k M c) (hk : k < L.length) (hc : L.length ≤ c) : FreeInv (lay cur (M.length * 3) (encL y)) L (k + 1) (M ++ [y]) c := by
  have h1 := h.skip hk
  have hle := h.le
  have hsz := h.size
  have hl3 : (encL y).length = 3 := rfl
  have hcs : cur.toList.length = cur.size := by simp
  refine ⟨by rw [lay_size _ _ _ (by rw [hl3]; omega)]; exact h.size, ?_, ?_, by rw [List.length_append]; simp; omega⟩
  · rw [flatL_append, ← h.low, List.length_append]
    show _ = _ ++ encL y
    unfold lay
    rw [List.append_assoc]
    show ((_ : List Value) ++ (encL y ++ _)).take _ = _
    rw [show (M.length + [y].length) * 3 = (cur.toList.take (M.length * 3) ++ encL y).length by rw [List.length_append, List.length_take, hl3, hcs, Nat.min_eq_left (by omega)]; simp; omega, ← List.append_assoc]
    exact List.take_left
  · rw [← h1.high]
    unfold lay
    apply List.ext_getElem?
    intro j
    simp only [List.getElem?_take, List.getElem?_drop, List.getElem?_append, List.length_append, List.length_take, hl3, hcs, Nat.min_def]
    grind
theorem FreeInv.start {cur : Array Value} {L : List Lf} {c : Nat} (hs : cur.size = c * 3) (ht : cur.toList.take (L.length * 3) = flatL L) : FreeInv cur L 0 [] c := by
  refine ⟨hs, by simp [flatL], ?_, Nat.le_refl _⟩
  simpa using ht
theorem own_setRow {base e k n g : Nat} {w : World} {v : Value} {xs : List Value} {cur : Array Value} {t : TypeId} (h : w.ownsRow base e k v n xs) (hg : w.heap[g]? = some (.cells cur t (0, 0))) (hne : e ≠ t) (c' : Array Value) : (w.setRow g c').ownsRow base e k v n xs :=
  own_same h fun b hb _ => setRow_other w g b c' (fun eq => by
    subst eq
    obtain ⟨_, _, cur', hc⟩ := own_type h b hb
    rw [hg] at hc
    simp at hc
    exact hne hc.2.symm)
theorem setRow_kept (w : World) (g : Nat) (c' : Array Value) : Kept (fun i => i = g) w (w.setRow g c') :=
  ⟨rfl, rfl, rfl, by simp [World.setRow], fun k _ hk => setRow_other w g k c' hk⟩
theorem run_life (w : World) (ty : TypeId) {g n c : Nat} {cur : Array Value} {L : List Lf} {y : Lf} {b : Nat} (hg : w.heap[g]? = some (.cells cur 34 (0, 0))) (hy : w.heap[b]? = some (.cells #[.int .i64 y.p, .int .u64 y.b, .int .u64 y.d] 34 (0, 0))) (hn : n = L.length) (hroom : n + 1 ≤ c) (hs : cur.size = c * 3) :
    (Builtin.append_ #[39, 39] ty #[.slice (some ⟨g, 0, none⟩) n c, .slice (some ⟨b, 0, none⟩) 1 1]).run Try.prog w = .ok (.slice (some ⟨g, 0, none⟩) (n + 1) c) (w.setRow g (lay cur (L.length * 3) (encL y))) := by
  obtain ⟨i0, hi, hz0, hz1, hz2⟩ := infoL'
  subst hn
  have hl3 : (encL y).length = 3 := rfl
  have := run_append_room (P := Try.prog) w 39 ty 34 i0 Try.underlying39 hi g L.length c cur hg ⟨b, 0, none⟩ 1 1 (encL y) (by rw [hz1]; rfl) (fun j u hj => by rw [add_at, Nat.zero_add, row_cell hy, ← Array.getElem?_toList]; exact hj) (flatL_one [y]) hroom (by rw [hz1, hs, hl3]; omega)
  rw [hz1] at this
  exact this
end Go.Proofs.Ytcfmcakdgamdmaa
