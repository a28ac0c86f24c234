/- Rows of numbers that the library writes over; slices.Compact. -/
import Derived.Test.YtcfmcakdgamdmaaReads
import Derived.Test.YtcfmcakdgamdmaaShelf
import Derived.Sort.OwnSorted
namespace Go.Proofs.Ytcfmcakdgamdmaa
open Go.RowKit Go.Sort Go.Shelf

theorem holds_row {enc : Int → Value} {w : World} {g n e : Nat} {cur : Array Value} {ps : List Int} (hg : w.heap[g]? = some (.cells cur e (0, 0))) (hn : n = ps.length) (ht : cur.toList.take (n * 1) = ps.map enc) : Holds enc w g 0 ps.toArray := fun j hj => by
  simp at hj
  refine ⟨?_, row_frozen hg _⟩
  have hget : cur[j]? = (ps.map enc)[j]? := by rw [← ht, List.getElem?_take, if_pos (by omega), Array.getElem?_toList]
  rw [row_cell hg, Nat.zero_add, hget, List.getElem?_map, List.getElem?_eq_getElem hj, getElem!_pos ps.toArray j (by simpa using hj)]
  simp
theorem put_own {enc : Int → Value} {base : Nat} {w : World} {g c e m q : Nat} {cur : Array Value} {qs : List Int} (hb : base ≤ g) (hg : w.heap[g]? = some (.cells cur e (0, 0))) (hm : m ≤ qs.length) (hq : qs.length ≤ c) (hc : c ≤ maxLen) (hs : cur.size = c * 1) :
    (putRow enc (Sort.ahead w q) g 0 qs.toArray).ownsRow base e 1 (.slice (some ⟨g, 0, none⟩) m c) m ((qs.take m).map enc) := by
  have hbk : (putRow enc (Sort.ahead w q) g 0 qs.toArray).heap[g]? = some (.cells (putCells enc 0 qs.toArray cur) e (0, 0)) := by
    simp [putRow, mapBlock, Sort.ahead, Array.getElem?_modify, hg, onCells]
  refine ⟨by simp; omega, .inr ⟨g, c, _, rfl, hb, hbk, by omega, hc, by simpa [putCells] using hs, ?_⟩⟩
  apply List.ext_getElem?
  intro j
  rw [List.getElem?_take]
  by_cases hj : j < m
  · rw [if_pos (by omega), Array.getElem?_toList, List.getElem?_map, List.getElem?_take, if_pos hj, List.getElem?_eq_getElem (by omega)]
    have hjc : j < cur.size := by omega
    have hjq : j < qs.length := by omega
    simp [putCells, hjc, hjq]
  · rw [if_neg (by omega), List.getElem?_map, List.getElem?_take, if_neg hj]
    rfl
theorem put_kept {enc : Int → Value} (w : World) (g q : Nat) (d : Array Int) : w.grownBy (putRow enc (Sort.ahead w q) g 0 d) (some g) :=
  ⟨rfl, rfl, rfl, by simp [putRow, mapBlock, Sort.ahead], fun k _ hk => by
    have : g ≠ k := fun e => hk (by rw [e])
    simp [putRow, mapBlock, Sort.ahead, Array.getElem?_modify, this]⟩
/-- What Compact keeps of more places. -/
theorem compact_once (l : List Int) : ∀ k, k ≤ l.length → Lib.compactUpTo l.toArray k = onceL (l.take k) := by
  have go : ∀ (l : List Int) (x : Int) (last : Option Int), onceF last (l ++ [x]) = onceF last l ++ if (l.getLast?.or last) = some x then [] else [x] := by
    intro l
    induction l with
    | nil =>
      intro x last
      by_cases h : last = some x <;> simp [onceF, h]
    | cons y l ih =>
      intro x last
      have e : (y :: l).getLast?.or last = (l.getLast?.or (some y)) := by
        rw [List.getLast?_cons]
        cases l.getLast? <;> simp
      rw [e, List.cons_append]
      unfold onceF
      by_cases h : last = some y
      · rw [if_pos h, if_pos h, ih x last, h]
      · rw [if_neg h, if_neg h, ih x (some y), List.cons_append]
  intro k
  induction k with
  | zero => intro _; simp [Lib.compactUpTo, onceL, onceF]
  | succ k ih =>
    intro hk
    have hx : l[k]? = some (l[k]'(by omega)) := List.getElem?_eq_getElem (by omega)
    rw [Lib.compactUpTo_succ, ih (by omega), List.take_add_one, hx]
    unfold onceL
    rw [show (some (l[k]'(by omega))).toList = [l[k]'(by omega)] from rfl, go]
    congr 1
    have e1 : (l.toArray)[k]! = l[k]'(by omega) := by rw [getElem!_pos l.toArray k (by simp; omega)]; simp
    rw [e1]
    rcases k with _ | k
    · simp [Lib.keeps]
    · have e2 : (l.toArray)[k + 1 - 1]! = l[k]'(by omega) := by rw [getElem!_pos l.toArray (k + 1 - 1) (by simp; omega)]; simp
      have e3 : (l.take (k + 1)).getLast? = some (l[k]'(by omega)) := by
        rw [List.getLast?_take]
        simp
      unfold Lib.keeps
      rw [e1, e2, e3]
      simp
      by_cases h : l[k + 1]'(by omega) = l[k]'(by omega)
      · simp [h]
      · have h' : ¬ l[k]'(by omega) = l[k + 1]'(by omega) := fun e => h e.symm
        simp [h, h']
/-- What Compact leaves. -/
structure CompactPost (base : Nat) (w : World) (v : Value) (ps : List Int) (r : Ending) (w' : World) : Prop where
  is : ∃ v', r = .returned v' ∧ NewI base w' v' (onceL ps) ∧ w.grownBy w' v.ownBlock ∧ v'.ownBlock = v.ownBlock
theorem zero23 : ∀ w, (zeroValue 3).run Try.prog w = .ok (.int .i64 0) w := Try.zeroValue3
set_option maxRecDepth 100000 in
theorem compact_any {base : Nat} {w : World} {v : Value} {ps : List Int} (h : NewI base w v ps) (hs : ps.length * 8 ≤ 140737488355328) :
    Calls Try.prog 35 #[v] w fun r w' => CompactPost base w v ps r w' := by
  rcases h.2 with ⟨rfl, h0⟩ | ⟨g, c, cur, rfl, hb, hg, hc, hm, hsz, ht⟩
  · have h0' : ps = [] := List.eq_nil_of_length_eq_zero h0
    subst h0'
    go_enter Try.func35, Try.ntmps35
    go_wp2
    go_ret
    exact ⟨_, rfl, World.ownsRow_nil _ _ _ _, ⟨rfl, rfl, rfl, Nat.le_refl _, fun _ _ _ => rfl⟩, rfl⟩
  · have hH : Holds (Value.int .i64) w g 0 ps.toArray := holds_row hg rfl ht
    refine (show Calls Try.prog 35 _ _ _ from AnyE.slices_Compact Try.compactA (Value.int .i64) (fun _ => rfl) (EqlAt.intD _ _ _) (NeqAt.intD _ _ _) 0 zero23 g 0 c ps.toArray w hH (by simp; omega) (by simpa using hc)).mono ?_
    rintro e w' ⟨rfl, q, rfl⟩
    have ho : Lib.compactUpTo ps.toArray ps.toArray.size = onceL ps := by
      have := compact_once ps ps.length (Nat.le_refl _)
      rw [List.take_of_length_le (Nat.le_refl _)] at this
      simpa using this
    have hol : (onceL ps).length ≤ ps.length := by
      rw [← ho]
      unfold Lib.compactUpTo
      rw [List.length_map]
      exact Nat.le_trans (List.length_filter_le _ _) (by simp)
    rw [ho]
    refine ⟨_, rfl, ?_, put_kept w g q _, rfl⟩
    have hp := put_own (enc := encI) (q := q) (m := (onceL ps).length) (qs := onceL ps ++ List.replicate (ps.toArray.size - (onceL ps).length) 0) hb hg (by simp) (by simp; omega) hm hsz
    rw [List.take_left' rfl] at hp
    exact hp
end Go.Proofs.Ytcfmcakdgamdmaa
