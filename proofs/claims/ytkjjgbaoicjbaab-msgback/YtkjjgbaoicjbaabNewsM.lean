/- Lists of messages of new memory; a message put behind them; rows of bools. -/
import Derived.Test.YtkjjgbaoicjbaabDecided
namespace Go.Proofs.Ytkjjgbaoicjbaab
open Go.RowKit

theorem infoMz : (Try.prog.info? 38).map (fun i => (i.zero, i.size, i.bytes)) = some (some zeroM.val, 5, 88) := by kernel_rfl
theorem infoM' : ∃ i, Try.prog.info? 38 = some i ∧ i.zero = some zeroM.val ∧ i.size = 5 ∧ i.bytes = 88 := by
  have h := infoMz
  cases hi : Try.prog.info? 38 with
  | none => rw [hi] at h; simp at h
  | some i => rw [hi] at h; simp at h; exact ⟨i, rfl, h⟩
theorem flatM_one {B : Nat} {w : World} {L : List Mt} (h : ∀ e ∈ L, e.Ok B w) : ∀ u ∈ flatM L, u.oneCell' = true := fun u hu => by
  obtain ⟨e, he, hu⟩ := List.mem_flatMap.1 hu
  obtain ⟨h1, h2, h3⟩ := (h e he).one
  simp only [Mt.cells, List.mem_cons, List.not_mem_nil, or_false] at hu
  rcases hu with rfl | rfl | rfl | rfl | rfl
  · rfl
  · rfl
  · exact h1
  · exact h2
  · exact h3
theorem msgs_own {base : Nat} {w : World} {v : Value} {F : List Mt} (h : w.ownsRow base 38 5 v F.length (flatM F)) (hok : ∀ e ∈ F, e.Ok w.heap.size w) (hs : F.length * 88 ≤ 140737488355328) : MsgsAt w.heap.size w v F := by
  refine ⟨?_, hs, hok⟩
  obtain ⟨hl0, hr⟩ := h
  rcases hr with ⟨rfl, h0⟩ | ⟨g, cap, cur, rfl, _, hg, hm, hc, hsz, ht⟩
  · have : F = [] := List.eq_nil_of_length_eq_zero h0
    subst this
    exact ⟨none, 0, rfl, Nat.le_refl _, fun _ => rfl, fun j u hj => by simp [flatM] at hj⟩
  · refine ⟨_, cap, rfl, hm, fun h => (by cases h), fun j u hj => ⟨g, 0, rfl, (Array.getElem?_eq_some_iff.1 hg).1, ?_⟩⟩
    have hl := (List.getElem?_eq_some_iff.1 hj).1
    rw [flatM_length] at hl
    rw [Nat.zero_add, row_cell hg, ← hj, ← ht, List.getElem?_take, if_pos hl, Array.getElem?_toList]
/-- Messages put behind messages. -/
theorem wpList_append_msgs {w : World} {ops : Array Oper} {rest : List Oper} {o : Oper} {a : Act} {Q : Exit → Act → World → Prop} (hgd : o.guard = none) (s x : Operand)
    (ho : o.op = .call { callee := .builtin .append, args := #[s, x], argTypes := #[22, 22] }) (base : Nat)
    (v u : Value) (F M : List Mt) (hs : a.eval s = v) (hv : w.ownsRow base 38 5 v F.length (flatM F)) (hx : a.eval x = u) (hu : MsgsAt w.heap.size w u M)
    (hlen : (F.length + M.length) * 88 ≤ 140737488355328) (hbase : base ≤ w.heap.size)
    (h : ∀ v' w', w'.ownsRow base 38 5 v' (F ++ M).length (flatM (F ++ M)) → Keep 38 base w w' → wpList Try.prog ops Q rest (a.put o.dst v') w') : wpList Try.prog ops Q (o :: rest) a w := by
  obtain ⟨i0, hi, hz0, hz1, hz2⟩ := infoM'
  have hone := flatM_one hu.ok
  obtain ⟨⟨ao, c, rfl, hc, hn, hb⟩, hl, hok⟩ := hu
  cases ao with
  | none =>
    have h0 : M = [] := by
      cases M with
      | nil => rfl
      | cons b r => obtain ⟨_, _, e, _⟩ := hb 0 _ rfl; cases e
    subst h0
    obtain rfl := hn rfl
    refine wpList_append_own_none hgd s x 22 ho base 38 i0 5 Try.underlying22 hi _ _ _ hs hv hx ?_
    exact h v w (by rw [List.append_nil]; exact hv) (Keep.refl _ _ _)
  | some ad =>
    refine wpList_append_own w hgd s x 22 ho base 38 i0 _ 5 88 Try.underlying22 hi hz0 hz1 hz2 rfl (by decide) _ _ _ hs hv ad M.length c (flatM M) hx (flatM_length M) ?_ hone (by unfold maxLen; omega) hlen hbase ?_
    · intro j u hj
      obtain ⟨g', off, e1, _, hc⟩ := hb j u hj
      cases e1
      rw [add_at]
      exact hc
    · intro v' w' hown hgr _
      refine h v' w' ?_ (keep_grown hv hgr hbase)
      rw [List.length_append, flatM_append]
      exact hown
/-- A list of messages of new memory. -/
structure NewMsgs (base : Nat) (w : World) (v : Value) (F : List Mt) : Prop where
  own : w.ownsRow base 38 5 v F.length (flatM F)
  ms : ∀ e ∈ F, NewMsg base w e
theorem NewMsgs.nil (base : Nat) (w : World) : NewMsgs base w (.slice none 0 0) [] := ⟨World.ownsRow_nil _ _ _ _, fun e he => by simp at he⟩
theorem NewMsgs.here {base : Nat} {w w' : World} {v : Value} {F : List Mt} (h : NewMsgs base w v F) (hb : Below w.heap.size w w') : NewMsgs base w' v F :=
  ⟨own_same h.own fun b _ hl => hb.block b hl, fun e he => (h.ms e he).here hb⟩
theorem NewMsgs.keep {base T B : Nat} {w w' : World} {v : Value} {F : List Mt} (h : NewMsgs base w v F) (hk : Keep T B w w') (hT : 5 ≠ T) (hE : 38 ≠ T) : NewMsgs base w' v F :=
  ⟨own_keep h.own hk hE, fun e he => (h.ms e he).keep hk hT⟩
theorem NewMsgs.at {base : Nat} {w : World} {v : Value} {F : List Mt} (h : NewMsgs base w v F) (hs : F.length * 88 ≤ 140737488355328) : MsgsAt w.heap.size w v F := msgs_own h.own (fun e he => (h.ms e he).ok) hs
theorem NewMsgs.push {base : Nat} {w w' : World} {v v' : Value} {F : List Mt} {y : Mt} (h : NewMsgs base w v F) (hy : NewMsg base w y) (hown : w'.ownsRow base 38 5 v' (F ++ [y]).length (flatM (F ++ [y]))) (hk : Keep 38 base w w') : NewMsgs base w' v' (F ++ [y]) := by
  refine ⟨hown, fun e he => ?_⟩
  rcases List.mem_append.1 he with h' | h'
  · exact (h.ms e h').keep hk (by decide)
  · simp at h'; rw [h']; exact hy.keep hk (by decide)
theorem msg_one (w : World) (y : Mt) (hy : y.Ok w.heap.size w) : MsgsAt (w.alloc (.cells #[.int .u64 (y.m.st : Int), .int .i64 y.m.kd, y.v1, y.v2, y.v3] 38)).heap.size (w.alloc (.cells #[.int .u64 (y.m.st : Int), .int .i64 y.m.kd, y.v1, y.v2, y.v3] 38)) (.slice (some ⟨w.heap.size, 0, none⟩) 1 1) [y] := by
  refine ⟨⟨_, _, rfl, Nat.le_refl _, fun h => (by cases h), fun j u hj => ⟨_, 0, rfl, by simp, ?_⟩⟩, by simp, fun e he => ?_⟩
  · rw [Nat.zero_add, row_cell (heap_alloc_last w _)]
    simpa [flatM, Mt.cells] using hj
  · simp at he; rw [he]; exact hy.here (below_new _ _)

/-- A block that holds just these truths. -/
structure RowB (w : World) (g : Nat) (xs : List Bool) : Prop where
  row : w.heap[g]? = some (.cells (xs.map Value.bool).toArray 4 (0, 0))
theorem RowB.lt {w : World} {g : Nat} {xs : List Bool} (h : RowB w g xs) : g < w.heap.size := (Array.getElem?_eq_some_iff.1 h.row).1
theorem RowB.cell {w : World} {g i : Nat} {xs : List Bool} {x : Bool} (h : RowB w g xs) (hi : xs[i]? = some x) : w.cell? ⟨g, i, none⟩ = some (.bool x) := by
  rw [row_cell h.row]; simp [hi]
theorem RowB.open {w : World} {g : Nat} {xs : List Bool} (h : RowB w g xs) (i : Nat) : w.frozen? ⟨g, i, none⟩ = false := row_frozen h.row i
theorem RowB.set {w : World} {g : Nat} {xs : List Bool} (h : RowB w g xs) (i : Nat) (x : Bool) : RowB (w.setCell ⟨g, i, none⟩ (.bool x)) g (xs.set i x) := by
  refine ⟨?_⟩
  rw [heap_set_same _ h.row, List.setIfInBounds_toArray]
  simp [List.map_set]
theorem RowB.block {w w' : World} {g : Nat} {xs : List Bool} (h : RowB w g xs) (hb : w'.heap[g]? = w.heap[g]?) : RowB w' g xs := ⟨by rw [hb]; exact h.row⟩
theorem RowB.here {w w' : World} {g : Nat} {xs : List Bool} (h : RowB w g xs) (hb : Below w.heap.size w w') : RowB w' g xs := h.block (hb.block g h.lt)
theorem RowB.keep {T B : Nat} {w w' : World} {g : Nat} {xs : List Bool} (h : RowB w g xs) (hk : Keep T B w w') (hT : 4 ≠ T) : RowB w' g xs := ⟨hk.typ _ _ _ _ hT h.row⟩
theorem infoOz : (Try.prog.info? 4).map (fun i => (i.zero, i.size, i.bytes)) = some (some (.bool false), 1, 1) := by kernel_rfl
theorem infoO' : ∃ i, Try.prog.info? 4 = some i ∧ i.zero = some (.bool false) ∧ i.size = 1 ∧ i.bytes = 1 := by
  have h := infoOz
  cases hi : Try.prog.info? 4 with
  | none => rw [hi] at h; simp at h
  | some i => rw [hi] at h; simp at h; exact ⟨i, rfl, h⟩
theorem madeBools (n : Nat) : (madeCells (Value.cells (.bool false)) (n * 1)).toList = List.replicate n (.bool false) := by
  simp only [madeCells, Value.cells, Nat.mul_one]
  apply List.ext_getElem
  · simp
  · intro i h1 h2
    simp [Nat.mod_one]
/-- Which messages have been found to decide. -/
def marked (n : Nat) (S : List Int) (c : Nat) : List Bool := (List.range n).map fun i : Nat => decide ((i : Int) ∈ S.take c)
theorem marked_length (n : Nat) (S : List Int) (c : Nat) : (marked n S c).length = n := by simp [marked]
theorem marked_zero (n : Nat) (S : List Int) : marked n S 0 = List.replicate n false := by
  apply List.ext_getElem
  · simp [marked]
  · intro i h1 h2; simp [marked]
theorem marked_get {n : Nat} {S : List Int} {c i : Nat} (hi : i < n) : (marked n S c)[i]? = some (decide ((i : Int) ∈ S.take c)) := by
  simp [marked, hi]
theorem marked_neg {n : Nat} {S : List Int} {c : Nat} {x : Int} (hx : S[c]? = some x) (h : x < 0) : marked n S (c + 1) = marked n S c := by
  unfold marked
  apply List.map_congr_left
  intro i _
  rw [List.take_add_one, hx]
  congr 1
  simp only [Option.toList_some, List.mem_append, List.mem_singleton, eq_iff_iff]
  constructor
  · rintro (h' | h')
    · exact h'
    · omega
  · exact .inl
theorem marked_set {n : Nat} {S : List Int} {c i : Nat} (hx : S[c]? = some (i : Int)) : marked n S (c + 1) = (marked n S c).set i true := by
  apply List.ext_getElem?
  intro j
  by_cases hj : j < n
  · rw [marked_get hj, List.getElem?_set, marked_get hj, marked_length, List.take_add_one, hx]
    by_cases e : i = j
    · subst e; simp [hj]
    · rw [if_neg e]
      congr 2
      simp only [Option.toList_some, List.mem_append, List.mem_singleton, eq_iff_iff]
      constructor
      · rintro (h' | h')
        · exact h'
        · omega
      · exact .inl
  · rw [List.getElem?_eq_none (by rw [marked_length]; omega), List.getElem?_eq_none (by rw [List.length_set, marked_length]; omega)]
end Go.Proofs.Ytkjjgbaoicjbaab
