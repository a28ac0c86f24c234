/- Marks onto a row of that mark, which others may share (as in stage 4). -/
import Derived.Test.YtaehchijeinloaaOut1
import Derived.ArgAppend
import Derived.Deep.AppendLies
namespace Go.Proofs.Ytaehchijeinloaa
open Go.RowKit

/-- Of one block cells have become the mark, no other block has changed. -/
structure Marked (q : Option Nat) (m : UInt8) (w w' : World) : Prop where
  os : w'.os = w.os
  tape : w'.tape = w.tape
  output : w'.output = w.output
  size : w.heap.size ≤ w'.heap.size
  other : ∀ k : Nat, k < w.heap.size → q ≠ some k → w'.heap[k]? = w.heap[k]?
  same : ∀ (k : Nat) (cur : Array Value), q = some k → w.heap[k]? = some (.cells cur 5 (0, 0)) → ∃ cur' : Array Value, w'.heap[k]? = some (.cells cur' 5 (0, 0)) ∧ cur'.size = cur.size ∧ ∀ j : Nat, cur'[j]? = cur[j]? ∨ cur'[j]? = some (encB m)

theorem Marked.refl (q : Option Nat) (m : UInt8) (w : World) : Marked q m w w := ⟨rfl, rfl, rfl, Nat.le_refl _, fun _ _ _ => rfl, fun _ cur _ h => ⟨cur, h, rfl, fun _ => .inl rfl⟩⟩
theorem Marked.trans {q : Option Nat} {m : UInt8} {a b c : World} (h : Marked q m a b) (k : Marked q m b c) : Marked q m a c :=
  ⟨k.os.trans h.os, k.tape.trans h.tape, k.output.trans h.output, Nat.le_trans h.size k.size,
    fun i hi hq => (k.other i (Nat.lt_of_lt_of_le hi h.size) hq).trans (h.other i hi hq),
    fun i cur hq hc => by
      obtain ⟨c1, h1, h2, h3⟩ := h.same i cur hq hc
      obtain ⟨c2, k1, k2, k3⟩ := k.same i c1 hq h1
      refine ⟨c2, k1, k2.trans h2, fun j => ?_⟩
      rcases k3 j with e | e
      · rcases h3 j with e' | e'
        · exact .inl (e.trans e')
        · exact .inr (e.trans e')
      · exact .inr e⟩
theorem Marked.of_below {q : Option Nat} {m : UInt8} {w w' : World} (h : Below w.heap.size w w') : Marked q m w w' :=
  ⟨h.os, h.tape, h.output, h.size, fun k hk _ => h.block k hk, fun k cur _ hc => ⟨cur, by rw [h.block k (Array.getElem?_eq_some_iff.1 hc).1]; exact hc, rfl, fun _ => .inl rfl⟩⟩
theorem Marked.step {q q2 : Option Nat} {m : UInt8} {a b c : World} (h : Marked q m a b) (k : Marked q2 m b c) (hq : q2 = q ∨ ∃ g, q2 = some g ∧ a.heap.size ≤ g) : Marked q m a c := by
  rcases hq with rfl | ⟨g, rfl, hg⟩
  · exact h.trans k
  · have hne : ∀ i, i < a.heap.size → some g ≠ some i := fun i hi e => by cases e; omega
    exact ⟨k.os.trans h.os, k.tape.trans h.tape, k.output.trans h.output, Nat.le_trans h.size k.size,
      fun i hi hq => (k.other i (Nat.lt_of_lt_of_le hi h.size) (hne i hi)).trans (h.other i hi hq),
      fun i cur hq hc => by
        have hi := (Array.getElem?_eq_some_iff.1 hc).1
        obtain ⟨c1, h1, h2, h3⟩ := h.same i cur hq hc
        exact ⟨c1, by rw [k.other i (Nat.lt_of_lt_of_le hi h.size) (hne i hi)]; exact h1, h2, h3⟩⟩
theorem Marked.set {q j : Nat} {m : UInt8} {w : World} : Marked (some q) m w (w.setCell ⟨q, j, none⟩ (encB m)) := by
  have hs : (w.setCell ⟨q, j, none⟩ (encB m)).heap.size = w.heap.size := by simp
  refine ⟨rfl, rfl, rfl, by rw [hs]; exact Nat.le_refl _, fun k _ hq => heap_set_other _ (fun e => hq (by rw [e])), fun k cur hq hc => ?_⟩
  cases hq
  refine ⟨_, heap_set_same (encB m) hc, by simp, fun i => ?_⟩
  rw [Array.getElem?_setIfInBounds]
  by_cases e : j = i
  · rw [if_pos e]
    by_cases hl : j < cur.size
    · rw [if_pos hl]; exact .inr rfl
    · rw [if_neg hl]
      exact .inl (by rw [← e, Array.getElem?_eq_none (by omega)])
  · rw [if_neg e]; exact .inl rfl
theorem Marked.drew {q : Option Nat} {m : UInt8} {w w' : World} (h : Marked q m w w') : Marked q m w w'.drew := ⟨h.os, h.tape, h.output, h.size, h.other, h.same⟩
theorem Marked.below {q : Option Nat} {m : UInt8} {w w' : World} (h : Marked q m w w') (B : Nat) (hB : B ≤ w.heap.size) (hq : ∀ k, q = some k → B ≤ k) : Below B w w' :=
  ⟨h.os, h.tape, h.output, h.size, fun k hk => h.other k (by omega) (fun e => by have := hq k e; omega)⟩

/-- A row of one mark stays one. -/
theorem Marked.row {q : Option Nat} {m : UInt8} {w w' : World} (h : Marked q m w w') {base n : Nat} {v : Value} (ho : w.ownsRow base 5 1 v n (List.replicate n (encB m))) : w'.ownsRow base 5 1 v n (List.replicate n (encB m)) := by
  obtain ⟨h1, h2⟩ := ho
  refine ⟨h1, ?_⟩
  rcases h2 with h2 | ⟨g, cap, cur, e, hb, hg, hc, hm, hs, ht⟩
  · exact .inl h2
  · right
    have hgl := (Array.getElem?_eq_some_iff.1 hg).1
    by_cases hq : q = some g
    · obtain ⟨cur', k1, k2, k3⟩ := h.same g cur hq hg
      refine ⟨g, cap, cur', e, hb, k1, hc, hm, by rw [k2]; exact hs, ?_⟩
      apply List.ext_getElem?
      intro j
      rw [List.getElem?_take, List.getElem?_replicate]
      by_cases hj : j < n
      · rw [if_pos (by omega), if_pos hj, Array.getElem?_toList]
        have hcj : cur[j]? = some (encB m) := by
          have := congrArg (fun l => l[j]?) ht
          simp only [List.getElem?_take, List.getElem?_replicate] at this
          rw [if_pos (by omega), if_pos hj, Array.getElem?_toList] at this
          exact this
        rcases k3 j with e' | e'
        · exact e'.trans hcj
        · exact e'
      · rw [if_neg (by omega), if_neg hj]
    · exact ⟨g, cap, cur, e, hb, by rw [h.other g hgl hq]; exact hg, hc, hm, hs, ht⟩
theorem Marked.keep {q : Option Nat} {m : UInt8} {w w' : World} (h : Marked q m w w') {base e n : Nat} {v : Value} {xs : List Value} (ho : w.ownsRow base e 1 v n xs) (hq : ∀ k, v.ownBlock = some k → q ≠ some k) : w'.ownsRow base e 1 v n xs :=
  own_same ho fun k hk hl => h.other k hl (hq k hk)
theorem repl_enc (n : Nat) (m : UInt8) : List.replicate n (encB m) = (List.replicate n m).map encB := by simp

theorem setCells_marks (m : UInt8) : ∀ (r : Nat) (w : World) (g k : Nat) (cur : Array Value), w.heap[g]? = some (.cells cur 5 (0, 0)) →
    ∃ cur' : Array Value, (w.setCells g k (List.replicate r (encB m))).heap[g]? = some (.cells cur' 5 (0, 0)) ∧ cur'.size = cur.size ∧ (∀ j : Nat, cur'[j]? = if k ≤ j ∧ j < k + r ∧ j < cur.size then some (encB m) else cur[j]?) ∧ Marked (some g) m w (w.setCells g k (List.replicate r (encB m)))
  | 0, w, g, k, cur, hg => ⟨cur, hg, rfl, fun j => by rw [if_neg (by omega)], Marked.refl _ _ _⟩
  | r + 1, w, g, k, cur, hg => by
    have h1 : (w.setCell ⟨g, k, none⟩ (encB m)).heap[g]? = some (.cells (cur.setIfInBounds k (encB m)) 5 (0, 0)) := heap_set_same _ hg
    obtain ⟨cur', e1, e2, e3, e4⟩ := setCells_marks m r (w.setCell ⟨g, k, none⟩ (encB m)) g (k + 1) _ h1
    rw [List.replicate_succ]
    refine ⟨cur', e1, by rw [e2]; simp, fun j => ?_, Marked.set.trans e4⟩
    rw [e3, Array.size_setIfInBounds, Array.getElem?_setIfInBounds]
    by_cases hj : k + 1 ≤ j ∧ j < k + 1 + r ∧ j < cur.size
    · rw [if_pos hj, if_pos (by omega)]
    · rw [if_neg hj]
      by_cases e : k = j
      · subst e
        rw [if_pos rfl]
        by_cases hl : k < cur.size
        · rw [if_pos hl, if_pos (by omega)]
        · rw [if_neg hl, if_neg (by omega), Array.getElem?_eq_none (by omega)]
      · rw [if_neg e, if_neg (by omega)]

theorem wpList_append_marks {w : World} {ops : Array Oper} {rest : List Oper} {o : Oper} {a : Act} {Q : Exit → Act → World → Prop} (hgd : o.guard = none) (s x : Operand)
    (ho : o.op = .call { callee := .builtin .append, args := #[s, x], argTypes := #[27, 27] }) (base : Nat) (m : UInt8) (r : Nat) (hr : 0 < r)
    (v : Value) (n : Nat) (hs : a.eval s = v) (hown : w.ownsRow base 5 1 v n (List.replicate n (encB m)))
    (ad : Addr) (c : Nat) (hx : a.eval x = .slice (some ad) r c) (hsrc : ∀ j, j < r → w.cell? (ad.add j) = some (encB m)) (hlen : n + r ≤ 140737488355328) (hbase : base ≤ w.heap.size)
    (h : ∀ v' w', w'.ownsRow base 5 1 v' (n + r) (List.replicate (n + r) (encB m)) → Marked v.ownBlock m w w' → (v'.ownBlock = v.ownBlock ∨ ∃ g, v'.ownBlock = some g ∧ w.heap.size ≤ g) → wpList Try.prog ops Q rest (a.put o.dst v') w') : wpList Try.prog ops Q (o :: rest) a w := by
  obtain ⟨i0, hi, hz0, hz1, hz2⟩ := info5'
  have hnews : ∀ (j : Nat) (u : Value), (List.replicate r (encB m))[j]? = some u → w.cell? (ad.add j) = some u := fun j u hj => by
    rw [List.getElem?_replicate] at hj
    split at hj
    · rename_i hj2
      rw [hsrc j hj2]
      exact hj
    · cases hj
  have hone : ∀ u ∈ List.replicate r (encB m), u.oneCell' = true := fun u hu => by rw [(List.mem_replicate.1 hu).2]; rfl
  have happ : List.replicate n (encB m) ++ List.replicate r (encB m) = List.replicate (n + r) (encB m) := List.replicate_append_replicate
  rcases hown.2 with ⟨rfl, rfl⟩ | ⟨g, cap, cur, rfl, hbg, hg, hc, hml, hcs, ht⟩
  · refine wpList_append_lies _ hgd s x 27 ho base 5 i0 (.int .u8 0) 1 1 Try.underlying27 hi hz0 hz1 hz2 rfl (by decide) (.slice none 0 0) 0 [] hs (World.ownsRow_nil _ _ _ _) ad r c (List.replicate r (encB m)) hx (by simp) hnews hone hr (by unfold maxLen; omega) (by omega) hbase _ rfl ?_
    intro g cap w' ho' hg' hat _
    have hgn : g = w.heap.size := by rcases hat with e | e; (cases e); exact e
    rw [List.nil_append] at ho'
    refine h _ w' (by rw [show List.replicate (0 + r) (encB m) = List.replicate r (encB m) by rw [Nat.zero_add]]; exact ho') (Marked.of_below ⟨hg'.os, hg'.tape, hg'.output, hg'.size, fun k hk => hg'.block k hk (fun e => by cases e)⟩) (.inr ⟨g, rfl, by rw [hgn]; exact Nat.le_refl _⟩)
  · have hcell : ∀ (j : Nat), j < n → cur[j]? = some (encB m) := fun j hj => by
      have := congrArg (fun l => l[j]?) ht
      simp only [List.getElem?_take, List.getElem?_replicate] at this
      rw [if_pos (by omega), if_pos hj, Array.getElem?_toList] at this
      exact this
    refine wpList_append_arg _ hgd s x 27 ho 5 i0 (.int .u8 0) 1 1 Try.underlying27 hi hz0 hz1 hz2 rfl (by decide) g 0 n cap (List.replicate n (encB m)) hs (by simp) ?_ ad r c (List.replicate r (encB m)) hx (by simp) hnews hone ?_ (by unfold maxLen; omega) (by omega) ?_ ?_
    · intro j u hj
      refine (row_cell hg (0 + j)).trans ?_
      rw [Nat.zero_add]
      rw [List.getElem?_replicate] at hj
      split at hj
      · rename_i hjn
        rw [hcell j hjn]
        exact hj
      · cases hj
    · intro hr2 j hj
      rw [List.length_replicate] at hj
      refine ⟨?_, row_frozen hg _⟩
      have e1 := row_cell hg (0 + n * 1 + j)
      rw [Array.getElem?_eq_getElem (show 0 + n * 1 + j < cur.size by rw [hcs]; omega)] at e1
      exact (congrArg Option.isSome e1).trans rfl
    · intro hr2
      obtain ⟨cur', e1, e2, e3, e4⟩ := setCells_marks m r w g (0 + n * 1) cur hg
      refine h (.slice (some ⟨g, 0, none⟩) (n + r) cap) _ ⟨by simp, .inr ⟨g, cap, cur', rfl, hbg, e1, hr2, hml, by rw [e2]; exact hcs, ?_⟩⟩ e4 (.inl rfl)
      apply List.ext_getElem?
      intro j
      rw [List.getElem?_take, List.getElem?_replicate, Array.getElem?_toList, e3]
      by_cases hj : j < n + r
      · rw [if_pos (by omega), if_pos hj]
        by_cases hjn : j < n
        · rw [if_neg (by omega)]
          exact hcell j hjn
        · rw [if_pos (by omega)]
      · rw [if_neg (by omega), if_neg hj]
    · intro hr2 v' w' ho' hg'
      rw [happ] at ho'
      refine h v' w' (own_mono ho' hbase) (Marked.of_below ⟨hg'.os, hg'.tape, hg'.output, hg'.size, fun k hk => hg'.block k hk (fun e => by cases e)⟩) (.inr ?_)
      rcases ho'.2 with ⟨_, e⟩ | ⟨g', cap', cur', rfl, hb', _⟩
      · omega
      · exact ⟨g', rfl, hb'⟩
end Go.Proofs.Ytaehchijeinloaa
