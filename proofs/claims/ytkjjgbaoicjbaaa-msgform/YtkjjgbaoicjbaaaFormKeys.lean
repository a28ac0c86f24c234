/- What MsgForm's walk leans on: a row of keys that grows, the pieces' boxes, sizes. -/
import Derived.Test.YtkjjgbaoicjbaaaOf
import Derived.Test.YtkjjgbaoicjbaaaWeights
import Derived.Test.YtkjjgbaoicjbaaaAwake
import Derived.Test.YtkjjgbaoicjbaaaLits
namespace Go.Proofs.Ytkjjgbaoicjbaaa
open Go.RowKit

theorem sizes_len (M : List Ms) : 13 * M.length ≤ sizesM M := by
  induction M with
  | nil => simp [sizesM]
  | cons m r ih => rw [sizesM_cons, List.length_cons]; unfold sizeM; omega
theorem sizes_mem {M : List Ms} {m : Ms} (h : m ∈ M) : sizeM m ≤ sizesM M := by
  induction M with
  | nil => simp at h
  | cons x r ih =>
    rw [sizesM_cons]
    rcases List.mem_cons.1 h with rfl | h
    · omega
    · have := ih h; omega
/-- A row of keys that grows, behind a world in which all else lies. -/
structure KeysTo (w wx : World) (kv : Value) (KL : List Kc) : Prop where
  own : wx.ownsRow w.heap.size 25 1 kv KL.length (KL.map Kc.v)
  ok : ∀ e ∈ KL, KeyK w.heap.size wx e.v e.k
  low : Below w.heap.size w wx
theorem KeysTo.here {w wx wy : World} {kv : Value} {KL : List Kc} (h : KeysTo w wx kv KL) (hb : Below wx.heap.size wx wy) : KeysTo w wy kv KL :=
  ⟨own_same h.own fun b _ hl => hb.block b hl, fun e he => (h.ok e he).here h.low.size hb, h.low.trans (hb.mono h.low.size)⟩
theorem KeysTo.first {w : World} {v : Value} {k : Key} (h : KeyIn w.heap.size w v k) : KeysTo w (w.alloc (.cells #[v] 25)) (.slice (some ⟨w.heap.size, 0, none⟩) 1 1) [⟨v, k⟩] :=
  ⟨World.ownsRow_lit w #[v] 1 (Nat.le_refl _) (by decide) rfl, fun e he => by simp at he; subst he; exact ⟨.inl (h.below (below_new _ _))⟩, below_new _ _⟩
theorem KeysTo.push {w wx wy : World} {kv kv' : Value} {KL N : List Kc} (h : KeysTo w wx kv KL) (hN : ∀ e ∈ N, KeyK w.heap.size wx e.v e.k)
    (ho : wy.ownsRow w.heap.size 25 1 kv' (KL.length + N.length) (KL.map Kc.v ++ N.map Kc.v)) (hg : wx.grownBy wy kv.ownBlock) : KeysTo w wy kv' (KL ++ N) := by
  have hk := keep_grown h.own hg h.low.size
  refine ⟨by rw [List.length_append, List.map_append]; exact ho, fun e he => ?_, h.low.trans hk.low⟩
  rcases List.mem_append.1 he with h' | h'
  · exact (h.ok e h').keep hk (by decide)
  · exact (hN e h').keep hk (by decide)
theorem KeysTo.cell {w wx : World} {kv : Value} {KL : List Kc} (h : KeysTo w wx kv KL) {i : Nat} {e : Kc} (hi : KL[i]? = some e) : ∃ g c, kv = .slice (some ⟨g, 0, none⟩) KL.length c ∧ wx.cell? ⟨g, i, none⟩ = some e.v := by
  obtain ⟨hl, h2⟩ := h.own
  rcases h2 with ⟨e', h0⟩ | ⟨g, c, cur, e', hb, hg, hc, hm, hs, ht⟩
  · have := List.eq_nil_of_length_eq_zero h0
    subst this; simp at hi
  · refine ⟨g, c, e', ?_⟩
    have hil := (List.getElem?_eq_some_iff.1 hi).1
    have h3 : (KL.map Kc.v)[i]? = some e.v := by simp [hi]
    rw [← ht, List.getElem?_take, if_pos (by omega), Array.getElem?_toList] at h3
    rw [row_cell hg]; exact h3
theorem KeysTo.at {w wx : World} {kv : Value} {KL : List Kc} (h : KeysTo w wx kv KL) {i : Nat} {e : Kc} (hi : KL[i]? = some e) : KeyAt wx e.v e.k := (h.ok e (List.mem_of_getElem? hi)).at h.low.size
theorem news4 (w : World) (v1 v2 v3 v4 : Value) (j : Nat) (u : Value) (hj : [v1, v2, v3, v4][j]? = some u) : (w.alloc (.cells #[v1, v2, v3, v4] 25)).cell? ((⟨w.heap.size, 0, none⟩ : Addr).add j) = some u := by
  rw [add_at, row_cell (heap_alloc_last w _)]
  simpa using hj
theorem one4 {base : Nat} {w : World} {a1 a2 : Option Addr} {n1 n2 c1 c2 : Nat} {u1 u2 : Value} {k1 k2 : Key} (h1 : NewKey base w u1 k1) (h2 : NewKey base w u2 k2) : ∀ u ∈ [Value.slice a1 n1 c1, .slice a2 n2 c2, u1, u2], u.oneCell' = true := fun u hu => by
  obtain ⟨p, q, e⟩ := h1.at.in.form
  obtain ⟨p', q', e'⟩ := h2.at.in.form
  subst e e'
  simp only [List.mem_cons, List.not_mem_nil, or_false] at hu
  rcases hu with rfl | rfl | rfl | rfl <;> rfl
theorem eval_func1 (a : Act) (N : Nat) : a.eval (.func N) = .func (.func N) #[] #[] := rfl
/-- A call of a function of one argument, as a step of a region that draws its order. -/
theorem step_call1 {w : World} {ops : Array Oper} {o : Oper} {a : Act} {K : Act → World → Prop} {Q : Exit → Act → World → Prop} {E : Prop} (hgd : o.guard = none) (N : Nat) (hE : Go.Proofs.Enters Try.prog N) (x : Operand) (t : TypeId)
    (ho : o.op = .call { callee := .value (.func N), args := #[x], argTypes := #[t] }) (v : Value) (R : Value → World → Prop) (hx : a.eval x = v) (hc : Calls Try.prog N #[v] w fun r w' => ∃ u, r = .returned u ∧ R u w') (h : ∀ u w', R u w' → K (a.put o.dst u) w') :
    if Region.wanted o (yielded ops a.tmps) = true then Oper.wp Try.prog o a w K Q else E := by
  have hw : Region.wanted o (yielded ops a.tmps) = true := by simp [Region.wanted, hgd]
  rw [if_pos hw]
  unfold Oper.wp
  simp [execOp, ho, resolve, invoke, Deferred.ofValue, hx, eval_func1, hE #[v] w]
  show Calls Try.prog N _ w _
  refine hc.mono ?_
  rintro r w' ⟨u, rfl, hr⟩
  exact h u w' hr
theorem piece_key {M : List Ms} {C : List Key} (hC : IsCuts M C) {p : Pc} (hp : p ∈ piecesM M C) (h1 : p.put = true) : ∃ m ∈ M, p.k = m.lo := by
  have hs : p.says p.k = true := by unfold Pc.says; rw [if_pos h1]; simp
  have hg := (pieces_inv hC C.length (Nat.le_refl _)).is p.k p hp hs
  rw [if_pos h1] at hg
  unfold getM at hg
  obtain ⟨m, hm, h2⟩ := Option.map_eq_some_iff.1 hg
  obtain ⟨_, h3, h4⟩ := decM_some hm
  have hk : m.kd = 1 := by
    by_cases h : m.kd = 1
    · exact h
    · rw [if_neg h] at h2; cases h2
  rw [Ms.says_one m _ (.inl hk)] at h3
  exact ⟨m, h4, (of_decide_eq_true h3).symm⟩
theorem new0 (w : World) : NewKey w.heap.size (w.alloc (.cells #[] 5)) (.slice (some ⟨w.heap.size, 0, none⟩) 0 0) [] :=
  ⟨World.ownsRow_made w #[] 0 (Nat.le_refl _) (Nat.zero_le _) (by simp), by simp⟩
theorem strB_same (a : List UInt8) : ((strB a).toList != (strB a).toList) = false := by simp
/-- A piece's box. -/
structure PcBox (w : World) (b : Nat) (put : Bool) (vk vv vl vh : Value) : Prop where
  row : w.heap[b]? = some (.cells #[.bool put, vk, vv, vl, vh, .bool false] 52 (0, 0))
theorem PcBox.lt {w : World} {b : Nat} {put : Bool} {vk vv vl vh : Value} (h : PcBox w b put vk vv vl vh) : b < w.heap.size := (Array.getElem?_eq_some_iff.1 h.row).1
theorem PcBox.here {w w' : World} {b : Nat} {put : Bool} {vk vv vl vh : Value} (h : PcBox w b put vk vv vl vh) (hb : Below w.heap.size w w') : PcBox w' b put vk vv vl vh := ⟨by rw [hb.block b h.lt]; exact h.row⟩
theorem PcBox.new (w : World) (put : Bool) (vk vv vl vh : Value) : PcBox (w.alloc (.cells #[.bool put, vk, vv, vl, vh, .bool false] 52)) w.heap.size put vk vv vl vh := ⟨heap_alloc_last _ _⟩
theorem PcBox.cells {w : World} {b : Nat} {put : Bool} {vk vv vl vh : Value} (h : PcBox w b put vk vv vl vh) : w.cell? ⟨b, 0, none⟩ = some (.bool put) ∧ w.cell? ⟨b, 1, none⟩ = some vk ∧ w.cell? ⟨b, 2, none⟩ = some vv ∧ w.cell? ⟨b, 3, none⟩ = some vl ∧ w.cell? ⟨b, 4, none⟩ = some vh ∧ w.cell? ⟨b, 5, none⟩ = some (.bool false) :=
  ⟨by rw [row_cell h.row]; rfl, by rw [row_cell h.row]; rfl, by rw [row_cell h.row]; rfl, by rw [row_cell h.row]; rfl, by rw [row_cell h.row]; rfl, by rw [row_cell h.row]; rfl⟩
end Go.Proofs.Ytkjjgbaoicjbaaa
