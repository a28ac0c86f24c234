/- The law's Book: bytes that came out, each with what it was; keep. -/
import Derived.Test.YtgifnaahahfhbaaBkMarks
import Derived.Deep.RegionHeldLaw
namespace Go.Proofs.Ytgifnaahahfhbaa
open Go.RowKit

/-- One mark more onto a row of that mark, which others may share. -/
theorem wpList_append_mark {w : World} {ops : Array Oper} {rest : List Oper} {o : Oper} {a : Act} {Q : Exit → Act → World → Prop} (hgd : o.guard = none) (s x : Operand)
    (ho : o.op = .call { callee := .builtin .append, args := #[s, x], argTypes := #[39, 39] }) (base : Nat)
    (w0 : World) (m : UInt8) (z : Int) (hz : z = (m.toNat : Int)) (hw : w = w0.alloc (.cells #[.int .u8 z] 5))
    (v : Value) (n : Nat) (hs : a.eval s = v) (hown : w0.ownsRow base 5 1 v n (List.replicate n (encB m)))
    (hx : a.eval x = .slice (some ⟨w0.heap.size, 0, none⟩) 1 1) (hlen : n + 1 ≤ 140737488355328) (hbase : base ≤ w0.heap.size)
    (h : ∀ v' w', w'.ownsRow base 5 1 v' (n + 1) (List.replicate (n + 1) (encB m)) → Marked v.ownBlock m w0 w' → (v'.ownBlock = v.ownBlock ∨ ∃ g, v'.ownBlock = some g ∧ w0.heap.size ≤ g) → wpList Try.prog ops Q rest (a.put o.dst v') w') : wpList Try.prog ops Q (o :: rest) a w := by
  subst hz
  subst hw
  obtain ⟨i0, hi, hz0, hz1, hz2⟩ := info5'
  have hb : Below w0.heap.size w0 (w0.alloc (.cells ([m].map encB).toArray 5)) := (Below.refl _ _).alloc (Nat.le_refl _) _
  have hnews : ∀ (j : Nat) (u : Value), [encB m][j]? = some u → (w0.alloc (.cells ([m].map encB).toArray 5)).cell? ((⟨w0.heap.size, 0, none⟩ : Addr).add j) = some u := fun j u hj => by
    rw [add_at, row_cell (heap_alloc_last w0 _)]
    simpa using hj
  have hone : ∀ u ∈ [encB m], u.oneCell' = true := fun u hu => by simp at hu; rw [hu]; rfl
  have happ : List.replicate n (encB m) ++ [encB m] = List.replicate (n + 1) (encB m) := List.replicate_succ'.symm
  rcases hown.2 with ⟨rfl, rfl⟩ | ⟨g, cap, cur, rfl, hbg, hg, hc, hml, hcs, ht⟩
  · refine wpList_append_lies _ hgd s x 39 ho base 5 i0 (.int .u8 0) 1 1 Try.underlying39 hi hz0 hz1 hz2 rfl (by decide) (.slice none 0 0) 0 [] hs (World.ownsRow_nil _ _ _ _) ⟨w0.heap.size, 0, none⟩ 1 1 [encB m] hx rfl hnews hone (by decide) (by unfold maxLen; omega) (by omega) (Nat.le_trans hbase hb.size) _ rfl ?_
    intro g cap w' ho' hg' hat _
    have hgn : g = (w0.alloc (.cells ([m].map encB).toArray 5)).heap.size := by rcases hat with e | e; (cases e); exact e
    refine h _ w' ho' (Marked.of_below ⟨hg'.os, hg'.tape, hg'.output, Nat.le_trans hb.size hg'.size, fun k hk => (hg'.block k (Nat.lt_of_lt_of_le hk hb.size) (fun e => by cases e)).trans (hb.block k hk)⟩) (.inr ⟨g, rfl, by rw [hgn]; exact hb.size⟩)
  · have hgl := (Array.getElem?_eq_some_iff.1 hg).1
    have hgw : (w0.alloc (.cells ([m].map encB).toArray 5)).heap[g]? = some (.cells cur 5 (0, 0)) := by rw [Below.heap_alloc _ _ _ hgl]; exact hg
    have hcell : ∀ (j : Nat), j < n → cur[j]? = some (encB m) := fun j hj => by
      have := congrArg (fun l => l[j]?) ht
      simp only [List.getElem?_take, List.getElem?_replicate] at this
      rw [if_pos (by omega), if_pos hj, Array.getElem?_toList] at this
      exact this
    refine wpList_append_arg _ hgd s x 39 ho 5 i0 (.int .u8 0) 1 1 Try.underlying39 hi hz0 hz1 hz2 rfl (by decide) g 0 n cap (List.replicate n (encB m)) hs (by simp) ?_ ⟨w0.heap.size, 0, none⟩ 1 1 [encB m] hx rfl hnews hone ?_ (by unfold maxLen; omega) (by omega) ?_ ?_
    · intro j u hj
      refine (row_cell hgw (0 + j)).trans ?_
      rw [Nat.zero_add]
      rw [List.getElem?_replicate] at hj
      split at hj
      · rename_i hjn
        rw [hcell j hjn]
        exact hj
      · cases hj
    · intro hr j hj
      have hj0 : j = 0 := by simp at hj; omega
      subst hj0
      refine ⟨?_, row_frozen hgw _⟩
      have e1 := row_cell hgw (0 + n * 1 + 0)
      rw [Array.getElem?_eq_getElem (show 0 + n * 1 + 0 < cur.size by rw [hcs]; omega)] at e1
      exact (congrArg Option.isSome e1).trans rfl
    · intro hr
      have hset : ((w0.alloc (.cells ([m].map encB).toArray 5)).setCell ⟨g, 0 + n * 1, none⟩ (encB m)).heap[g]? = some (.cells (cur.setIfInBounds (0 + n * 1) (encB m)) 5 (0, 0)) := heap_set_same _ hgw
      refine h (.slice (some ⟨g, 0, none⟩) (n + 1) cap) ((w0.alloc (.cells ([m].map encB).toArray 5)).setCell ⟨g, 0 + n * 1, none⟩ (encB m)) ⟨by simp, .inr ⟨g, cap, _, rfl, hbg, hset, hr, hml, by simpa using hcs, ?_⟩⟩ ((Marked.of_below hb).trans Marked.set) (.inl rfl)
      apply List.ext_getElem?
      intro j
      rw [List.getElem?_take, List.getElem?_replicate, Array.getElem?_toList, Array.getElem?_setIfInBounds]
      by_cases hj : j < n + 1
      · rw [if_pos (by omega), if_pos hj]
        by_cases e : 0 + n * 1 = j
        · rw [if_pos e, if_pos (by rw [hcs]; omega)]
        · rw [if_neg e]
          exact hcell j (by omega)
      · rw [if_neg (by omega), if_neg hj]
    · intro hr v' w' ho' hg'
      rw [happ] at ho'
      refine h v' w' (own_mono ho' (Nat.le_trans hbase hb.size)) (Marked.of_below ⟨hg'.os, hg'.tape, hg'.output, Nat.le_trans hb.size hg'.size, fun k hk => (hg'.block k (Nat.lt_of_lt_of_le hk hb.size) (fun e => by cases e)).trans (hb.block k hk)⟩) (.inr ?_)
      rcases ho'.2 with ⟨_, e⟩ | ⟨g', cap', cur', rfl, hb', _⟩
      · omega
      · exact ⟨g', rfl, Nat.le_trans hb.size hb'⟩

/-- Bytes from whatever source onto a new row, as a step of a region that draws its order. -/
theorem step_append_bytes {w : World} {ops : Array Oper} {o : Oper} {a : Act} {K : Act → World → Prop} {Q : Exit → Act → World → Prop} {E : Prop} (hgd : o.guard = none) (s x : Operand)
    (ho : o.op = .call { callee := .builtin .append, args := #[s, x], argTypes := #[39, 39] }) (base : Nat)
    (g n cg : Nat) (xs : List UInt8) (hs : a.eval s = .slice (some ⟨g, 0, none⟩) n cg) (hown : w.ownsRow base 5 1 (.slice (some ⟨g, 0, none⟩) n cg) n (xs.map encB))
    (ao : Option Addr) (c l : Nat) (bs : List UInt8) (hl : bs.length = l) (hx : a.eval x = .slice ao l c) (hb : BytesAt w.heap.size w ao bs) (hn : ao = none → c = 0)
    (hlen : n + l ≤ 140737488355328) (hbase : base ≤ w.heap.size)
    (h : ∀ g' c' w', w'.ownsRow base 5 1 (.slice (some ⟨g', 0, none⟩) (n + l) c') (n + l) ((xs ++ bs).map encB) → w.grownBy w' (some g) → K (a.put o.dst (.slice (some ⟨g', 0, none⟩) (n + l) c')) w') :
    if Region.wanted o (yielded ops a.tmps) = true then Oper.wp Try.prog o a w K Q else E := by
  have hw : Region.wanted o (yielded ops a.tmps) = true := by simp [Region.wanted, hgd]
  rw [if_pos hw]
  subst hl
  obtain ⟨i0, hi, hz0, hz1, hz2⟩ := info5'
  cases ao with
  | none =>
    have h0 : bs = [] := by
      cases bs with
      | nil => rfl
      | cons b r => obtain ⟨_, _, e, _⟩ := hb 0 b rfl; cases e
    subst h0
    obtain rfl := hn rfl
    have hrun := run_append_owned_none (P := Try.prog) (w := w) base 39 o.type 5 i0 1 Try.underlying39 hi _ n _ hown
    have hx' : a.eval x = .slice none 0 0 := hx
    have := h g cg w (by simpa using hown) ⟨rfl, rfl, rfl, Nat.le_refl _, fun _ _ _ => rfl⟩
    unfold Oper.wp
    simp [execOp, ho, resolve, invoke, builtin, hs, hx', hrun, Result.andThen]
    exact this
  | some ad =>
    refine wp_append_own w s x 39 ho base 5 i0 (.int .u8 0) 1 1 Try.underlying39 hi hz0 hz1 hz2 rfl (by decide) _ n _ hs hown ad bs.length c (bs.map encB) hx (by simp) ?_ (oneB bs) (by unfold maxLen; omega) (by omega) hbase ?_
    · intro j u hj
      rw [List.getElem?_map] at hj
      cases e : bs[j]? with
      | none => rw [e] at hj; cases hj
      | some b =>
        rw [e] at hj
        cases hj
        obtain ⟨g', off, e1, _, hc⟩ := hb j b e
        cases e1
        rw [add_at]
        exact hc
    · intro v' w' hown' hgr hiff
      rw [← List.map_append] at hown'
      obtain ⟨g', c', rfl⟩ : ∃ g' c', v' = .slice (some ⟨g', 0, none⟩) (n + bs.length) c' := by
        obtain ⟨_, hr⟩ := hown'
        rcases hr with ⟨e, _⟩ | ⟨g', c', cur, e, _⟩
        · obtain ⟨e2, _⟩ := hiff.1 e; cases e2
        · exact ⟨g', c', e⟩
      exact h g' c' w' hown' hgr

theorem info27 : (Try.prog.info? 39).map (fun i => (i.zero, i.size, i.bytes)) = some (some (.slice none 0 0), 1, 24) := by kernel_rfl
theorem info27' : ∃ i, Try.prog.info? 39 = some i ∧ i.zero = some (.slice none 0 0) ∧ i.size = 1 ∧ i.bytes = 24 := by
  have h := info27
  cases hi : Try.prog.info? 39 with
  | none => rw [hi] at h; simp at h
  | some i => rw [hi] at h; simp at h; exact ⟨i, rfl, h⟩
end Go.Proofs.Ytgifnaahahfhbaa
