/- Lists of entries of new memory; an entry put behind them. -/
import Derived.Test.YtgifnaahahfhbaaEnc
namespace Go.Proofs.Ytgifnaahahfhbaa
open Go.RowKit

theorem tag_ne {w : World} {b g : Nat} {cur cur' : Array Value} {t t' : TypeId} {z z' : Nat × Nat} (h : w.heap[b]? = some (.cells cur t z)) (h' : w.heap[g]? = some (.cells cur' t' z')) (hne : t ≠ t') : b ≠ g := by
  rintro rfl
  rw [h] at h'
  simp only [Option.some.injEq, Obj.cells.injEq] at h'
  exact hne h'.2.1
/-- What stays: all below a border, and whatever block is none of a type. -/
structure Keep (T : TypeId) (B : Nat) (w w' : World) : Prop where
  low : Below B w w'
  typ : ∀ (k : Nat) (cur : Array Value) (t : TypeId) z, t ≠ T → w.heap[k]? = some (Obj.cells cur t z) → w'.heap[k]? = some (Obj.cells cur t z)
theorem Keep.refl (T : TypeId) (B : Nat) (w : World) : Keep T B w w := ⟨Below.refl _ _, fun _ _ _ _ _ h => h⟩
theorem Keep.trans {T : TypeId} {B : Nat} {a b c : World} (h : Keep T B a b) (k : Keep T B b c) : Keep T B a c := ⟨h.low.trans k.low, fun i cur t z ht hi => k.typ i cur t z ht (h.typ i cur t z ht hi)⟩
theorem Keep.of {T : TypeId} {B : Nat} {w w' : World} (h : Below w.heap.size w w') (hB : B ≤ w.heap.size) : Keep T B w w' := ⟨h.mono hB, fun k cur t z _ hk => by rw [h.block k (Array.getElem?_eq_some_iff.1 hk).1]; exact hk⟩
theorem NewKey.keep {base T B : Nat} {w w' : World} {v : Value} {ks : Key} (h : NewKey base w v ks) (hk : Keep T B w w') (hT : 5 ≠ T) : NewKey base w' v ks :=
  ⟨own_same h.1 fun b hb _ => by
    obtain ⟨_, _, cur, hc⟩ := own_type h.1 b hb
    rw [hc]; exact hk.typ _ _ _ _ hT hc, h.2⟩

/-- The blocks of some entries' keys and values. -/
def blocks (F : List It) : List Nat := (F.flatMap fun e => [e.v1, e.v2]).filterMap Value.ownBlock
theorem blocks_append (F G : List It) : blocks (F ++ G) = blocks F ++ blocks G := by simp [blocks]
theorem mem_blocks {F : List It} {b : Nat} (h : b ∈ blocks F) : ∃ e ∈ F, e.v1.ownBlock = some b ∨ e.v2.ownBlock = some b := by
  obtain ⟨v, hv, hb⟩ := List.mem_filterMap.1 h
  obtain ⟨e, he, hv⟩ := List.mem_flatMap.1 hv
  simp at hv
  rcases hv with rfl | rfl
  · exact ⟨e, he, .inl hb⟩
  · exact ⟨e, he, .inr hb⟩
/-- An entry of new memory. -/
structure NewEnt (base : Nat) (w : World) (y : It) : Prop where
  k : NewKey base w y.v1 y.e.k
  v : NewKey base w y.v2 y.e.v
  apart : ∀ b, y.v1.ownBlock = some b → y.v2.ownBlock ≠ some b
theorem NewEnt.here {base : Nat} {w w' : World} {y : It} (h : NewEnt base w y) (hb : Below w.heap.size w w') : NewEnt base w' y := ⟨h.k.here hb, h.v.here hb, h.apart⟩
theorem NewEnt.mono {base base' : Nat} {w : World} {y : It} (h : NewEnt base w y) (hb : base' ≤ base) : NewEnt base' w y := ⟨h.k.mono hb, h.v.mono hb, h.apart⟩
theorem NewEnt.keep {base T B : Nat} {w w' : World} {y : It} (h : NewEnt base w y) (hk : Keep T B w w') (hT : 5 ≠ T) : NewEnt base w' y := ⟨h.k.keep hk hT, h.v.keep hk hT, h.apart⟩
theorem NewKey.in {base : Nat} {w : World} {v : Value} {k : Key} (h : NewKey base w v k) : KeyIn w.heap.size w v k := h.at.in
theorem NewEnt.ok {base : Nat} {w : World} {y : It} (h : NewEnt base w y) : y.Ok w.heap.size w := ⟨h.k.in, h.v.in⟩
theorem NewEnt.nodup {base : Nat} {w : World} {y : It} (h : NewEnt base w y) : (blocks [y]).Nodup := by
  simp only [blocks, List.flatMap_cons, List.flatMap_nil, List.append_nil]
  cases h1 : y.v1.ownBlock with
  | none =>
    cases h2 : y.v2.ownBlock with
    | none => simp [h1, h2]
    | some c => simp [h1, h2]
  | some b =>
    cases h2 : y.v2.ownBlock with
    | none => simp [h1, h2]
    | some c =>
      have : b ≠ c := fun e => h.apart b h1 (by rw [h2, e])
      simp [h1, h2, this]
/-- A list of entries of new memory, each key and value in a block of its own. -/
structure NewList (base : Nat) (w : World) (v : Value) (F : List It) : Prop where
  own : w.ownsRow base 47 2 v F.length (flat F)
  ents : ∀ e ∈ F, NewEnt base w e
  apart : (blocks F).Nodup
theorem NewList.nil (base : Nat) (w : World) : NewList base w (.slice none 0 0) [] := ⟨World.ownsRow_nil _ _ _ _, fun e he => by simp at he, by simp [blocks]⟩
theorem NewList.here {base : Nat} {w w' : World} {v : Value} {F : List It} (h : NewList base w v F) (hb : Below w.heap.size w w') : NewList base w' v F :=
  ⟨own_same h.own fun b _ hl => hb.block b hl, fun e he => (h.ents e he).here hb, h.apart⟩
theorem NewList.mono {base base' : Nat} {w : World} {v : Value} {F : List It} (h : NewList base w v F) (hb : base' ≤ base) : NewList base' w v F :=
  ⟨own_mono h.own hb, fun e he => (h.ents e he).mono hb, h.apart⟩
theorem NewList.keep {base T B : Nat} {w w' : World} {v : Value} {F : List It} (h : NewList base w v F) (hk : Keep T B w w') (hT : 5 ≠ T) (hE : 47 ≠ T) : NewList base w' v F :=
  ⟨own_same h.own fun b hb _ => by
    obtain ⟨_, _, cur, hc⟩ := own_type h.own b hb
    rw [hc]; exact hk.typ _ _ _ _ hE hc, fun e he => (h.ents e he).keep hk hT, h.apart⟩
theorem blocks_lt {base : Nat} {w : World} {F : List It} (h : ∀ e ∈ F, NewEnt base w e) {b : Nat} (hb : b ∈ blocks F) : b < w.heap.size ∧ base ≤ b := by
  obtain ⟨e, he, h' | h'⟩ := mem_blocks hb
  · have := own_type (h e he).k.own b h'; exact ⟨this.1, this.2.1⟩
  · have := own_type (h e he).v.own b h'; exact ⟨this.1, this.2.1⟩
theorem NewList.list {base : Nat} {w : World} {v : Value} {F : List It} (h : NewList base w v F) (hs : F.length * 48 ≤ 140737488355328) : ListAt w.heap.size w v F := by
  refine ⟨?_, hs, fun e he => (h.ents e he).ok⟩
  rcases own_row h.own with ⟨rfl, rfl⟩ | ⟨g, c, rfl, _, hc, _, hr⟩
  · exact ⟨none, 0, rfl, Nat.le_refl _, fun _ => rfl, fun j u hj => by simp [flat] at hj⟩
  · refine ⟨_, c, rfl, hc, fun h => (by cases h), fun j u hj => ⟨g, 0, rfl, hr.lt, ?_⟩⟩
    obtain ⟨cur, h1, _, h3⟩ := hr.is
    have hl := (List.getElem?_eq_some_iff.1 hj).1
    rw [flat_length] at hl
    rw [Nat.zero_add, row_cell h1, ← hj, ← h3, List.getElem?_take, if_pos hl, Array.getElem?_toList]
theorem Keep.grownE {base : Nat} {w w' : World} {v : Value} {n : Nat} {xs : List Value} (hv : w.ownsRow base 47 2 v n xs) (hg : w.grownBy w' v.ownBlock) (hB : base ≤ w.heap.size) : Keep 47 base w w' := by
  refine ⟨(Below.refl _ _).grown hg hB (fun k e => (own_type hv k e).2.1), fun k cur t z ht hk => ?_⟩
  obtain ⟨_, _, _, _, hbl⟩ := hg
  rw [hbl k (Array.getElem?_eq_some_iff.1 hk).1]
  · exact hk
  · intro e
    obtain ⟨_, _, cur', h'⟩ := own_type hv k e.symm
    rw [hk] at h'
    simp only [Option.some.injEq, Obj.cells.injEq] at h'
    exact ht h'.2.1
/-- Entries put behind entries (whatever their memory). -/
theorem wpList_append_rows {w : World} {ops : Array Oper} {rest : List Oper} {o : Oper} {a : Act} {Q : Exit → Act → World → Prop} (hgd : o.guard = none) (s x : Operand)
    (ho : o.op = .call { callee := .builtin .append, args := #[s, x], argTypes := #[25, 25] }) (base : Nat)
    (v u : Value) (F M : List It) (hs : a.eval s = v) (hv : w.ownsRow base 47 2 v F.length (flat F)) (hx : a.eval x = u) (hu : ListAt w.heap.size w u M)
    (hlen : (F.length + M.length) * 48 ≤ 140737488355328) (hbase : base ≤ w.heap.size)
    (h : ∀ v' w', w'.ownsRow base 47 2 v' (F ++ M).length (flat (F ++ M)) → Keep 47 base w w' → wpList Try.prog ops Q rest (a.put o.dst v') w') : wpList Try.prog ops Q (o :: rest) a w := by
  obtain ⟨i0, hi, hz0, hz1, hz2⟩ := infoE'
  have hone := flat_one hu.ok
  obtain ⟨⟨ao, c, rfl, hc, hn, hb⟩, hl, hok⟩ := hu
  cases ao with
  | none =>
    have h0 : M = [] := by
      cases M with
      | nil => rfl
      | cons b r => obtain ⟨_, _, e, _⟩ := hb 0 b.v1 rfl; cases e
    subst h0
    obtain rfl := hn rfl
    refine wpList_append_own_none hgd s x 25 ho base 47 i0 2 Try.underlying25 hi _ _ _ hs hv hx ?_
    exact h v w (by rw [List.append_nil]; exact hv) (Keep.refl _ _ _)
  | some ad =>
    refine wpList_append_own w hgd s x 25 ho base 47 i0 _ 2 48 Try.underlying25 hi hz0 hz1 hz2 rfl (by decide) _ _ _ hs hv ad M.length c (flat M) hx (flat_length M) ?_ hone (by unfold maxLen; omega) hlen hbase ?_
    · intro j u hj
      obtain ⟨g', off, e1, _, hc⟩ := hb j u hj
      cases e1
      rw [add_at]
      exact hc
    · intro v' w' hown hgr _
      refine h v' w' ?_ (Keep.grownE hv hgr hbase)
      rw [List.length_append, flat_append]
      exact hown
/-- The list with a new entry behind it. -/
theorem NewList.push {base : Nat} {w w' : World} {v v' : Value} {F : List It} {y : It} (h : NewList base w v F) (hy : NewEnt base w y) (hap : ∀ b ∈ blocks [y], b ∉ blocks F) (hown : w'.ownsRow base 47 2 v' (F ++ [y]).length (flat (F ++ [y]))) (hk : Keep 47 base w w') : NewList base w' v' (F ++ [y]) := by
  refine ⟨hown, fun e he => ?_, ?_⟩
  · rcases List.mem_append.1 he with h' | h'
    · exact (h.ents e h').keep hk (by decide)
    · simp at h'; rw [h']; exact hy.keep hk (by decide)
  · rw [blocks_append, List.nodup_append]
    exact ⟨h.apart, hy.nodup, fun a ha b hb' e => hap b hb' (e ▸ ha)⟩
/-- The list that a literal of one entry makes. -/
theorem list_one (w : World) (y : It) (hy : y.Ok w.heap.size w) : ListAt (w.alloc (.cells #[y.v1, y.v2] 47)).heap.size (w.alloc (.cells #[y.v1, y.v2] 47)) (.slice (some ⟨w.heap.size, 0, none⟩) 1 1) [y] := by
  refine ⟨⟨_, _, rfl, Nat.le_refl _, fun h => (by cases h), fun j u hj => ⟨_, 0, rfl, by simp, ?_⟩⟩, by simp, fun e he => ?_⟩
  · rw [Nat.zero_add, row_cell (heap_alloc_last w _)]
    simpa [flat, It.cells] using hj
  · simp at he; rw [he]; exact hy.here (below_new _ _)
end Go.Proofs.Ytgifnaahahfhbaa
