/- Lists of messages of new memory; a message put behind them; rows of bools. -/
import Derived.Test.YtpmcpomomagkhaaRows0
namespace Go.Proofs.Ytpmcpomomagkhaa
open Go.RowKit

theorem infoMz : (Try.prog.info? 48).map (fun i => (i.zero, i.size, i.bytes)) = some (some zeroM.val, 5, 88) := by kernel_rfl
theorem infoM' : ∃ i, Try.prog.info? 48 = some i ∧ i.zero = some zeroM.val ∧ i.size = 5 ∧ i.bytes = 88 := by
  have h := infoMz
  cases hi : Try.prog.info? 48 with
  | none => rw [hi] at h; simp at h
  | some i => rw [hi] at h; simp at h; exact ⟨i, rfl, h⟩
theorem flatM_one {B : Nat} {w : World} {L : List Mt} (h : ∀ e ∈ L, e.Ok B w) : ∀ u ∈ flatM L, u.oneCell' = true := fun u hu => by
  obtain ⟨e, he, hu⟩ := List.mem_flatMap.1 hu
  obtain ⟨h1, h2, h3⟩ := (h e he).one
  simp only [Mt.cells, List.mem_cons, List.not_mem_nil, or_false] at hu
  rcases hu with rfl | rfl | rfl | rfl | rfl
  · rfl
  · rfl
  · exact h1
  · exact h2
  · exact h3
theorem msgs_own {base : Nat} {w : World} {v : Value} {F : List Mt} (h : w.ownsRow base 48 5 v F.length (flatM F)) (hok : ∀ e ∈ F, e.Ok w.heap.size w) (hs : F.length * 88 ≤ 140737488355328) : MsgsAt w.heap.size w v F := by
  refine ⟨?_, hs, hok⟩
  obtain ⟨hl0, hr⟩ := h
  rcases hr with ⟨rfl, h0⟩ | ⟨g, cap, cur, rfl, _, hg, hm, hc, hsz, ht⟩
  · have : F = [] := List.eq_nil_of_length_eq_zero h0
    subst this
    exact ⟨none, 0, rfl, Nat.le_refl _, fun _ => rfl, fun j u hj => by simp [flatM] at hj⟩
  · refine ⟨_, cap, rfl, hm, fun h => (by cases h), fun j u hj => ⟨g, 0, rfl, (Array.getElem?_eq_some_iff.1 hg).1, ?_⟩⟩
    have hl := (List.getElem?_eq_some_iff.1 hj).1
    rw [flatM_length] at hl
    rw [Nat.zero_add, row_cell hg, ← hj, ← ht, List.getElem?_take, if_pos hl, Array.getElem?_toList]
/-- Messages put behind messages. -/
theorem wpList_append_msgs {w : World} {ops : Array Oper} {rest : List Oper} {o : Oper} {a : Act} {Q : Exit → Act → World → Prop} (hgd : o.guard = none) (s x : Operand)
    (ho : o.op = .call { callee := .builtin .append, args := #[s, x], argTypes := #[29, 29] }) (base : Nat)
    (v u : Value) (F M : List Mt) (hs : a.eval s = v) (hv : w.ownsRow base 48 5 v F.length (flatM F)) (hx : a.eval x = u) (hu : MsgsAt w.heap.size w u M)
    (hlen : (F.length + M.length) * 88 ≤ 140737488355328) (hbase : base ≤ w.heap.size)
    (h : ∀ v' w', w'.ownsRow base 48 5 v' (F ++ M).length (flatM (F ++ M)) → Keep 48 base w w' → wpList Try.prog ops Q rest (a.put o.dst v') w') : wpList Try.prog ops Q (o :: rest) a w := by
  obtain ⟨i0, hi, hz0, hz1, hz2⟩ := infoM'
  have hone := flatM_one hu.ok
  obtain ⟨⟨ao, c, rfl, hc, hn, hb⟩, hl, hok⟩ := hu
  cases ao with
  | none =>
    have h0 : M = [] := by
      cases M with
      | nil => rfl
      | cons b r => obtain ⟨_, _, e, _⟩ := hb 0 _ rfl; cases e
    subst h0
    obtain rfl := hn rfl
    refine wpList_append_own_none hgd s x 29 ho base 48 i0 5 Try.underlying29 hi _ _ _ hs hv hx ?_
    exact h v w (by rw [List.append_nil]; exact hv) (Keep.refl _ _ _)
  | some ad =>
    refine wpList_append_own w hgd s x 29 ho base 48 i0 _ 5 88 Try.underlying29 hi hz0 hz1 hz2 rfl (by decide) _ _ _ hs hv ad M.length c (flatM M) hx (flatM_length M) ?_ hone (by unfold maxLen; omega) hlen hbase ?_
    · intro j u hj
      obtain ⟨g', off, e1, _, hc⟩ := hb j u hj
      cases e1
      rw [add_at]
      exact hc
    · intro v' w' hown hgr _
      refine h v' w' ?_ (keep_grown hv hgr hbase)
      rw [List.length_append, flatM_append]
      exact hown
/-- A list of messages of new memory. -/
structure NewMsgs (base : Nat) (w : World) (v : Value) (F : List Mt) : Prop where
  own : w.ownsRow base 48 5 v F.length (flatM F)
  ms : ∀ e ∈ F, NewMsg base w e
theorem NewMsgs.nil (base : Nat) (w : World) : NewMsgs base w (.slice none 0 0) [] := ⟨World.ownsRow_nil _ _ _ _, fun e he => by simp at he⟩
theorem NewMsgs.here {base : Nat} {w w' : World} {v : Value} {F : List Mt} (h : NewMsgs base w v F) (hb : Below w.heap.size w w') : NewMsgs base w' v F :=
  ⟨own_same h.own fun b _ hl => hb.block b hl, fun e he => (h.ms e he).here hb⟩
theorem NewMsgs.keep {base T B : Nat} {w w' : World} {v : Value} {F : List Mt} (h : NewMsgs base w v F) (hk : Keep T B w w') (hT : 5 ≠ T) (hE : 48 ≠ T) : NewMsgs base w' v F :=
  ⟨own_keep h.own hk hE, fun e he => (h.ms e he).keep hk hT⟩
theorem NewMsgs.at {base : Nat} {w : World} {v : Value} {F : List Mt} (h : NewMsgs base w v F) (hs : F.length * 88 ≤ 140737488355328) : MsgsAt w.heap.size w v F := msgs_own h.own (fun e he => (h.ms e he).ok) hs
theorem NewMsgs.push {base : Nat} {w w' : World} {v v' : Value} {F : List Mt} {y : Mt} (h : NewMsgs base w v F) (hy : NewMsg base w y) (hown : w'.ownsRow base 48 5 v' (F ++ [y]).length (flatM (F ++ [y]))) (hk : Keep 48 base w w') : NewMsgs base w' v' (F ++ [y]) := by
  refine ⟨hown, fun e he => ?_⟩
  rcases List.mem_append.1 he with h' | h'
  · exact (h.ms e h').keep hk (by decide)
  · simp at h'; rw [h']; exact hy.keep hk (by decide)
theorem msg_one (w : World) (y : Mt) (hy : y.Ok w.heap.size w) : MsgsAt (w.alloc (.cells #[.int .u64 (y.m.st : Int), .int .i64 y.m.kd, y.v1, y.v2, y.v3] 48)).heap.size (w.alloc (.cells #[.int .u64 (y.m.st : Int), .int .i64 y.m.kd, y.v1, y.v2, y.v3] 48)) (.slice (some ⟨w.heap.size, 0, none⟩) 1 1) [y] := by
  refine ⟨⟨_, _, rfl, Nat.le_refl _, fun h => (by cases h), fun j u hj => ⟨_, 0, rfl, by simp, ?_⟩⟩, by simp, fun e he => ?_⟩
  · rw [Nat.zero_add, row_cell (heap_alloc_last w _)]
    simpa [flatM, Mt.cells] using hj
  · simp at he; rw [he]; exact hy.here (below_new _ _)

end Go.Proofs.Ytpmcpomomagkhaa
