/- Rows of pieces. -/
import Derived.Test.YtkjjgbaoicjbaabSettles
namespace Go.Proofs.Ytkjjgbaoicjbaab
open Go.RowKit

/-- A piece in a row: its four slices, and what it is. -/
structure Pt where
  vk : Value
  vv : Value
  vl : Value
  vh : Value
  p : Pc
  deriving Inhabited
def Pt.cells (x : Pt) : List Value := [.bool x.p.put, x.vk, x.vv, x.vl, x.vh, .bool false]
def Pt.val (x : Pt) : Value := .agg #[.bool x.p.put, x.vk, x.vv, x.vl, x.vh, .bool false]
structure Pt.Ok (base : Nat) (w : World) (x : Pt) : Prop where
  k : KeyK base w x.vk x.p.k
  v : KeyK base w x.vv x.p.v
  lo : KeyK base w x.vl x.p.lo
  hi : KeyK base w x.vh x.p.hi
theorem KeyK.form {base : Nat} {w : World} {v : Value} {k : Key} (h : KeyK base w v k) : ∃ a c, v = .slice a k.length c := by
  rcases h.is with h | h
  · exact h.form
  · exact h.at.in.form
theorem KeyK.nil (base : Nat) (w : World) : KeyK base w (.slice none 0 0) [] := ⟨.inr (NewKey.nil _ _)⟩
theorem Pt.Ok.keep {base T : Nat} {w w' : World} {x : Pt} (h : x.Ok base w) (hk : Keep T base w w') (hT : 5 ≠ T) : x.Ok base w' := ⟨h.k.keep hk hT, h.v.keep hk hT, h.lo.keep hk hT, h.hi.keep hk hT⟩
theorem Pt.Ok.here {base : Nat} {w w' : World} {x : Pt} (h : x.Ok base w) (hB : base ≤ w.heap.size) (hb : Below w.heap.size w w') : x.Ok base w' := ⟨h.k.here hB hb, h.v.here hB hb, h.lo.here hB hb, h.hi.here hB hb⟩
def flatP (L : List Pt) : List Value := L.flatMap Pt.cells
theorem flatP_cons (e : Pt) (L : List Pt) : flatP (e :: L) = .bool e.p.put :: e.vk :: e.vv :: e.vl :: e.vh :: .bool false :: flatP L := rfl
theorem flatP_append (L M : List Pt) : flatP (L ++ M) = flatP L ++ flatP M := List.flatMap_append
theorem flatP_length (L : List Pt) : (flatP L).length = L.length * 6 := by
  induction L with
  | nil => rfl
  | cons e L ih => rw [flatP_cons]; simp [ih]; omega
theorem flatP_get (L : List Pt) (i j : Nat) (e : Pt) (h : L[i]? = some e) (hj : j < 6) : (flatP L)[i * 6 + j]? = e.cells[j]? := by
  induction L generalizing i with
  | nil => simp at h
  | cons x L ih =>
    have hc : flatP (x :: L) = x.cells ++ flatP L := rfl
    have hl : x.cells.length = 6 := rfl
    rw [hc]
    cases i with
    | zero => simp at h; subst h; rw [Nat.zero_mul, Nat.zero_add, List.getElem?_append_left (by rw [hl]; exact hj)]
    | succ i =>
      rw [List.getElem?_append_right (by rw [hl]; omega), hl, show (i + 1) * 6 + j - 6 = i * 6 + j by omega]
      exact ih i (by simpa using h)
theorem flatP_set (L : List Pt) (i : Nat) (e : Pt) (h : L[i]? = some e) (u : Value) (b : Key) : (flatP L).set (i * 6 + 4) u = flatP (L.set i ⟨e.vk, e.vv, e.vl, u, ⟨e.p.put, e.p.k, e.p.v, e.p.lo, b⟩⟩) := by
  induction L generalizing i with
  | nil => simp at h
  | cons x L ih =>
    have hc : flatP (x :: L) = x.cells ++ flatP L := rfl
    have hl : x.cells.length = 6 := rfl
    cases i with
    | zero => simp at h; subst h; rfl
    | succ i =>
      rw [hc, List.set_append_right _ _ (by rw [hl]; omega), hl, show (i + 1) * 6 + 4 - 6 = i * 6 + 4 by omega, ih i (by simpa using h)]
      rfl
theorem infoPz : (Try.prog.info? 49).map (fun i => (i.zero, i.size, i.bytes)) = some (some (.agg #[.bool false, .slice none 0 0, .slice none 0 0, .slice none 0 0, .slice none 0 0, .bool false]), 6, 112) := by kernel_rfl
theorem infoP' : ∃ i, Try.prog.info? 49 = some i ∧ i.zero = some (.agg #[.bool false, .slice none 0 0, .slice none 0 0, .slice none 0 0, .slice none 0 0, .bool false]) ∧ i.size = 6 ∧ i.bytes = 112 := by
  have h := infoPz
  cases hi : Try.prog.info? 49 with
  | none => rw [hi] at h; simp at h
  | some i => rw [hi] at h; simp at h; exact ⟨i, rfl, h⟩
/-- A list of pieces, of a row of its own. -/
structure Pcs (base : Nat) (w : World) (v : Value) (F : List Pt) : Prop where
  own : w.ownsRow base 49 6 v F.length (flatP F)
  ok : ∀ e ∈ F, e.Ok base w
def pcsOf (F : List Pt) : List Pc := F.map Pt.p
theorem Pcs.nil (base : Nat) (w : World) : Pcs base w (.slice none 0 0) [] := ⟨World.ownsRow_nil _ _ _ _, fun e he => by simp at he⟩
theorem Pcs.here {base : Nat} {w w' : World} {v : Value} {F : List Pt} (h : Pcs base w v F) (hB : base ≤ w.heap.size) (hb : Below w.heap.size w w') : Pcs base w' v F :=
  ⟨own_same h.own fun b _ hl => hb.block b hl, fun e he => (h.ok e he).here hB hb⟩
theorem Pcs.keep {base T : Nat} {w w' : World} {v : Value} {F : List Pt} (h : Pcs base w v F) (hk : Keep T base w w') (hT : 5 ≠ T) (hE : 49 ≠ T) : Pcs base w' v F :=
  ⟨own_keep h.own hk hE, fun e he => (h.ok e he).keep hk hT⟩
/-- The cells of a piece. -/
theorem Pcs.cells {base : Nat} {w : World} {v : Value} {F : List Pt} (h : Pcs base w v F) {i : Nat} {e : Pt} (hi : F[i]? = some e) :
    ∃ g c, v = .slice (some ⟨g, 0, none⟩) F.length c ∧ base ≤ g ∧ F.length ≤ c ∧ (∃ cur, w.heap[g]? = some (.cells cur 49 (0, 0))) ∧ ∀ j u, e.cells[j]? = some u → w.cell? ⟨g, i * 6 + j, none⟩ = some u := by
  obtain ⟨hl0, hr⟩ := h.own
  rcases hr with ⟨rfl, h0⟩ | ⟨g, cap, cur, rfl, hg0, hg, hm, hc, hsz, ht⟩
  · have : F = [] := List.eq_nil_of_length_eq_zero h0
    subst this; simp at hi
  · refine ⟨g, cap, rfl, hg0, hm, ⟨cur, hg⟩, fun j u hj => ?_⟩
    have hj6 : j < 6 := (List.getElem?_eq_some_iff.1 hj).1
    have hil : i < F.length := (List.getElem?_eq_some_iff.1 hi).1
    rw [row_cell hg, ← Array.getElem?_toList]
    have := flatP_get F i j e hi hj6
    rw [← ht, List.getElem?_take, if_pos (by omega)] at this
    rw [this, hj]
/-- The end of a piece is written. -/
theorem Pcs.set {base : Nat} {w : World} {g c : Nat} {F : List Pt} (h : Pcs base w (.slice (some ⟨g, 0, none⟩) F.length c) F) {i : Nat} {e : Pt} (hi : F[i]? = some e) {u : Value} {b : Key} (hu : KeyK base w u b) :
    Pcs base (w.setCell ⟨g, i * 6 + 4, none⟩ u) (.slice (some ⟨g, 0, none⟩) F.length c) (F.set i ⟨e.vk, e.vv, e.vl, u, ⟨e.p.put, e.p.k, e.p.v, e.p.lo, b⟩⟩) ∧ Keep 49 base w (w.setCell ⟨g, i * 6 + 4, none⟩ u) := by
  obtain ⟨hl0, hr⟩ := h.own
  rcases hr with ⟨e', _⟩ | ⟨g', cap, cur, e', hg0, hg, hm, hc, hsz, ht⟩
  · cases e'
  · cases e'
    have hil : i < F.length := (List.getElem?_eq_some_iff.1 hi).1
    have hk : Keep 49 base w (w.setCell ⟨g, i * 6 + 4, none⟩ u) := keep_set hg hg0 u
    refine ⟨⟨⟨by rw [flatP_length], .inr ⟨g, c, cur.setIfInBounds (i * 6 + 4) u, by rw [List.length_set], hg0, heap_set_same _ hg, by rw [List.length_set]; exact hm, hc, by simp [hsz], ?_⟩⟩, fun x hx => ?_⟩, hk⟩
    · rw [List.length_set, ← flatP_set F i e hi u b, ← ht, Array.toList_setIfInBounds, List.take_set]
    · rcases List.mem_or_eq_of_mem_set hx with h' | h'
      · exact (h.ok x h').keep hk (by decide)
      · subst h'
        have := h.ok e (List.mem_of_getElem? hi)
        exact ⟨this.k.keep hk (by decide), this.v.keep hk (by decide), this.lo.keep hk (by decide), hu.keep hk (by decide)⟩
/-- A piece put behind pieces. -/
theorem wpList_append_pcs {w : World} {ops : Array Oper} {rest : List Oper} {o : Oper} {a : Act} {Q : Exit → Act → World → Prop} (hgd : o.guard = none) (s x : Operand)
    (ho : o.op = .call { callee := .builtin .append, args := #[s, x], argTypes := #[44, 44] }) (base : Nat)
    (v : Value) (F : List Pt) (y : Pt) (g : Nat) (hs : a.eval s = v) (hv : Pcs base w v F) (hx : a.eval x = .slice (some ⟨g, 0, none⟩) 1 1) (hy : w.heap[g]? = some (.cells #[.bool y.p.put, y.vk, y.vv, y.vl, y.vh, .bool false] 49 (0, 0))) (hok : y.Ok base w)
    (hlen : (F.length + 1) * 112 ≤ 140737488355328) (hbase : base ≤ w.heap.size)
    (h : ∀ v' w', Pcs base w' v' (F ++ [y]) → Keep 49 base w w' → wpList Try.prog ops Q rest (a.put o.dst v') w') : wpList Try.prog ops Q (o :: rest) a w := by
  obtain ⟨i0, hi, hz0, hz1, hz2⟩ := infoP'
  refine wpList_append_own w hgd s x 44 ho base 49 i0 _ 6 112 Try.underlying44 hi hz0 hz1 hz2 rfl (by decide) _ _ _ hs hv.own ⟨g, 0, none⟩ 1 1 (flatP [y]) hx (flatP_length [y]) ?_ ?_ (by unfold maxLen; omega) hlen hbase ?_
  · intro j u hj
    rw [add_at, Nat.zero_add, row_cell hy, ← hj]
    simp [flatP, Pt.cells]
  · intro u hu
    obtain ⟨_, _, e1⟩ := hok.k.form
    obtain ⟨_, _, e2⟩ := hok.v.form
    obtain ⟨_, _, e3⟩ := hok.lo.form
    obtain ⟨_, _, e4⟩ := hok.hi.form
    simp only [flatP, Pt.cells, List.flatMap_cons, List.flatMap_nil, List.append_nil, List.mem_cons, List.not_mem_nil, or_false] at hu
    rw [e1, e2, e3, e4] at hu
    rcases hu with rfl | rfl | rfl | rfl | rfl | rfl <;> rfl
  · intro v' w' hown hgr _
    have hk := keep_grown hv.own hgr hbase
    refine h v' w' ⟨?_, fun e he => ?_⟩ hk
    · rw [List.length_append, flatP_append]
      exact hown
    · rcases List.mem_append.1 he with h' | h'
      · exact (hv.ok e h').keep hk (by decide)
      · simp at h'; rw [h']; exact hok.keep hk (by decide)
end Go.Proofs.Ytkjjgbaoicjbaab
