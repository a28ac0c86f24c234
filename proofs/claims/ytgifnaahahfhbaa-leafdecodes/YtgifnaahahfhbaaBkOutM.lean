/- The law's Book: lists of entries that are written over with marks; an entry more onto a row that others may share. -/
import Derived.Test.YtgifnaahahfhbaaBkMarks
import Derived.Test.YtgifnaahahfhbaaNews
import Derived.Deep.RegionHeldLaw
namespace Go.Proofs.Ytgifnaahahfhbaa
open Go.RowKit

/-- An entry that has the mark m alone. -/
structure IsM (base : Nat) (w : World) (m : UInt8) (u0 u1 : Value) : Prop where
  is : ∃ g, u0 = .slice (some ⟨g, 0, none⟩) 1 1 ∧ base ≤ g ∧ w.heap[g]? = some (.cells #[encB m] 5 (0, 0))
  nil : u1 = .slice none 0 0
/-- All rows of bytes stay. -/
abbrev Bytes8 (w w' : World) : Prop := ∀ (k : Nat) (cur : Array Value), w.heap[k]? = some (.cells cur 5 (0, 0)) → w'.heap[k]? = some (.cells cur 5 (0, 0))
theorem IsM.stay {base : Nat} {w w' : World} {m : UInt8} {u0 u1 : Value} (h : IsM base w m u0 u1) (hb : Bytes8 w w') : IsM base w' m u0 u1 := by
  obtain ⟨⟨g, e, hg, hc⟩, hn⟩ := h
  exact ⟨⟨g, e, hg, hb g _ hc⟩, hn⟩
/-- A row of n entries, of which the first k are marked. -/
structure RowM (base : Nat) (w : World) (m : UInt8) (v : Value) (n k : Nat) : Prop where
  is : ∃ xs, w.ownsRow base 47 2 v n xs ∧ ∀ j, j < k → ∃ u0 u1, xs[j * 2]? = some u0 ∧ xs[j * 2 + 1]? = some u1 ∧ IsM base w m u0 u1
theorem RowM.of {base : Nat} {w : World} {v : Value} {n : Nat} {xs : List Value} (h : w.ownsRow base 47 2 v n xs) (m : UInt8) : RowM base w m v n 0 := ⟨xs, h, fun j hj => by omega⟩
theorem RowM.form {base : Nat} {w : World} {m : UInt8} {v : Value} {n k : Nat} (h : RowM base w m v n k) : ∃ a c, v = .slice a n c := by
  obtain ⟨xs, h1, _⟩ := h.is
  rcases h1.2 with ⟨e, h0⟩ | ⟨g, cap, cur, e, _⟩
  · exact ⟨none, 0, by rw [e, h0]⟩
  · exact ⟨_, _, e⟩
/-- Of one block entries have become the mark, no other block has changed. -/
structure MkE (base : Nat) (q : Option Nat) (m : UInt8) (w w' : World) : Prop where
  os : w'.os = w.os
  tape : w'.tape = w.tape
  output : w'.output = w.output
  size : w.heap.size ≤ w'.heap.size
  other : ∀ k : Nat, k < w.heap.size → q ≠ some k → w'.heap[k]? = w.heap[k]?
  bytes : Bytes8 w w'
  same : ∀ (k : Nat) (cur : Array Value), q = some k → w.heap[k]? = some (.cells cur 47 (0, 0)) → ∃ cur' : Array Value, w'.heap[k]? = some (.cells cur' 47 (0, 0)) ∧ cur'.size = cur.size ∧
    ∀ j : Nat, (cur'[j * 2]? = cur[j * 2]? ∧ cur'[j * 2 + 1]? = cur[j * 2 + 1]?) ∨ ∃ u0 u1, cur'[j * 2]? = some u0 ∧ cur'[j * 2 + 1]? = some u1 ∧ IsM base w' m u0 u1
theorem Below.bytes8 {w w' : World} (h : Below w.heap.size w w') : Bytes8 w w' := fun k cur hc => by rw [h.block k (Array.getElem?_eq_some_iff.1 hc).1]; exact hc
theorem MkE.of_below {base : Nat} {q : Option Nat} {m : UInt8} {w w' : World} (h : Below w.heap.size w w') : MkE base q m w w' :=
  ⟨h.os, h.tape, h.output, h.size, fun k hk _ => h.block k hk, Below.bytes8 h, fun k cur _ hc => ⟨cur, by rw [h.block k (Array.getElem?_eq_some_iff.1 hc).1]; exact hc, rfl, fun _ => .inl ⟨rfl, rfl⟩⟩⟩
theorem MkE.refl (base : Nat) (q : Option Nat) (m : UInt8) (w : World) : MkE base q m w w := MkE.of_below (Below.refl _ _)
theorem MkE.trans {base : Nat} {q : Option Nat} {m : UInt8} {a b c : World} (h : MkE base q m a b) (k : MkE base q m b c) : MkE base q m a c :=
  ⟨k.os.trans h.os, k.tape.trans h.tape, k.output.trans h.output, Nat.le_trans h.size k.size,
    fun i hi hq => (k.other i (Nat.lt_of_lt_of_le hi h.size) hq).trans (h.other i hi hq), fun i cur hc => k.bytes i cur (h.bytes i cur hc),
    fun i cur hq hc => by
      obtain ⟨c1, h1, h2, h3⟩ := h.same i cur hq hc
      obtain ⟨c2, k1, k2, k3⟩ := k.same i c1 hq h1
      refine ⟨c2, k1, k2.trans h2, fun j => ?_⟩
      rcases k3 j with ⟨e0, e1⟩ | e
      · rcases h3 j with ⟨f0, f1⟩ | ⟨u0, u1, f0, f1, hm⟩
        · exact .inl ⟨e0.trans f0, e1.trans f1⟩
        · exact .inr ⟨u0, u1, e0.trans f0, e1.trans f1, hm.stay k.bytes⟩
      · exact .inr e⟩
theorem MkE.step {base : Nat} {q q2 : Option Nat} {m : UInt8} {a b c : World} (h : MkE base q m a b) (k : MkE base q2 m b c) (hq : q2 = q ∨ ∃ g, q2 = some g ∧ a.heap.size ≤ g) : MkE base q m a c := by
  rcases hq with rfl | ⟨g, rfl, hg⟩
  · exact h.trans k
  · have hne : ∀ i, i < a.heap.size → some g ≠ some i := fun i hi e => by cases e; omega
    exact ⟨k.os.trans h.os, k.tape.trans h.tape, k.output.trans h.output, Nat.le_trans h.size k.size,
      fun i hi hq => (k.other i (Nat.lt_of_lt_of_le hi h.size) (hne i hi)).trans (h.other i hi hq), fun i cur hc => k.bytes i cur (h.bytes i cur hc),
      fun i cur hq hc => by
        have hi := (Array.getElem?_eq_some_iff.1 hc).1
        obtain ⟨c1, h1, h2, h3⟩ := h.same i cur hq hc
        refine ⟨c1, by rw [k.other i (Nat.lt_of_lt_of_le hi h.size) (hne i hi)]; exact h1, h2, fun j => ?_⟩
        rcases h3 j with e | ⟨u0, u1, f0, f1, hm⟩
        · exact .inl e
        · exact .inr ⟨u0, u1, f0, f1, hm.stay k.bytes⟩⟩
theorem MkE.below {base : Nat} {q : Option Nat} {m : UInt8} {w w' : World} (h : MkE base q m w w') (B : Nat) (hB : B ≤ w.heap.size) (hq : ∀ k, q = some k → B ≤ k) : Below B w w' :=
  ⟨h.os, h.tape, h.output, h.size, fun k hk => h.other k (by omega) (fun e => by have := hq k e; omega)⟩
/-- Two cells of a row of entries are written. -/
theorem MkE.set {base q j : Nat} {m : UInt8} {w : World} {u0 u1 : Value} {cur0 : Array Value} (hq : w.heap[q]? = some (.cells cur0 47 (0, 0))) (hj : j * 2 + 1 < cur0.size) (hm : IsM base w m u0 u1) : MkE base (some q) m w ((w.setCell ⟨q, j * 2, none⟩ u0).setCell ⟨q, j * 2 + 1, none⟩ u1) := by
  have hby : Bytes8 w ((w.setCell ⟨q, j * 2, none⟩ u0).setCell ⟨q, j * 2 + 1, none⟩ u1) := fun k cur hc => by
    have hne : k ≠ q := fun e => by
      rw [e, hq] at hc
      simp at hc
    rw [heap_set_other _ hne, heap_set_other _ hne]
    exact hc
  refine ⟨rfl, rfl, rfl, by simp, fun k _ hk => ?_, hby, fun k cur hk hc => ?_⟩
  · have hne : k ≠ q := fun e => hk (by rw [e])
    rw [heap_set_other _ hne, heap_set_other _ hne]
  · cases hk
    rw [hq] at hc
    cases hc
    refine ⟨_, heap_set_same u1 (heap_set_same u0 hq), by simp, fun i => ?_⟩
    by_cases e : j = i
    · subst e
      refine .inr ⟨u0, u1, ?_, ?_, hm.stay hby⟩
      · rw [Array.getElem?_setIfInBounds, if_neg (by omega), Array.getElem?_setIfInBounds, if_pos rfl, if_pos (by omega)]
      · rw [Array.getElem?_setIfInBounds, if_pos rfl, if_pos (by simp; omega)]
    · refine .inl ⟨?_, ?_⟩
      · rw [Array.getElem?_setIfInBounds, if_neg (by omega), Array.getElem?_setIfInBounds, if_neg (by omega)]
      · rw [Array.getElem?_setIfInBounds, if_neg (by omega), Array.getElem?_setIfInBounds, if_neg (by omega)]
theorem xs_cell {cur : Array Value} {xs : List Value} {n j : Nat} (ht : cur.toList.take n = xs) (hj : j < n) : xs[j]? = cur[j]? := by
  rw [← ht, List.getElem?_take, if_pos hj, Array.getElem?_toList]
/-- A row of one mark stays one. -/
theorem MkE.row {base : Nat} {q : Option Nat} {m : UInt8} {w w' : World} (h : MkE base q m w w') {v : Value} {n : Nat} (ho : RowM base w m v n n) : RowM base w' m v n n := by
  obtain ⟨xs, ⟨h1, h2⟩, h3⟩ := ho.is
  rcases h2 with ⟨e, h0⟩ | ⟨g, cap, cur, e, hb, hg, hc, hm, hs, ht⟩
  · exact ⟨xs, ⟨h1, .inl ⟨e, h0⟩⟩, fun j hj => by omega⟩
  · have hgl := (Array.getElem?_eq_some_iff.1 hg).1
    by_cases hq : q = some g
    · obtain ⟨cur', k1, k2, k3⟩ := h.same g cur hq hg
      refine ⟨cur'.toList.take (n * 2), ⟨by simp; omega, .inr ⟨g, cap, cur', e, hb, k1, hc, hm, by rw [k2]; exact hs, rfl⟩⟩, fun j hj => ?_⟩
      rw [xs_cell rfl (by omega), xs_cell rfl (by omega)]
      rcases k3 j with ⟨e0, e1⟩ | hr
      · obtain ⟨u0, u1, f0, f1, hM⟩ := h3 j hj
        rw [xs_cell ht (by omega)] at f0 f1
        exact ⟨u0, u1, e0.trans f0, e1.trans f1, hM.stay h.bytes⟩
      · exact hr
    · refine ⟨xs, ⟨h1, .inr ⟨g, cap, cur, e, hb, by rw [h.other g hgl hq]; exact hg, hc, hm, hs, ht⟩⟩, fun j hj => ?_⟩
      obtain ⟨u0, u1, f0, f1, hM⟩ := h3 j hj
      exact ⟨u0, u1, f0, f1, hM.stay h.bytes⟩
/-- So does whatever row lies elsewhere. -/
theorem MkE.keep {base : Nat} {q : Option Nat} {m m' : UInt8} {w w' : World} (h : MkE base q m w w') {v : Value} {n k : Nat} (ho : RowM base w m' v n k) (hq : ∀ k, v.ownBlock = some k → q ≠ some k) : RowM base w' m' v n k := by
  obtain ⟨xs, h1, h3⟩ := ho.is
  refine ⟨xs, own_same h1 (fun k hk hl => h.other k hl (hq k hk)), fun j hj => ?_⟩
  obtain ⟨u0, u1, f0, f1, hM⟩ := h3 j hj
  exact ⟨u0, u1, f0, f1, hM.stay h.bytes⟩
theorem MkE.own {base base' : Nat} {q : Option Nat} {m : UInt8} {w w' : World} (h : MkE base q m w w') {v : Value} {e n s : Nat} {xs : List Value} (ho : w.ownsRow base' e s v n xs) (hq : ∀ k, v.ownBlock = some k → q ≠ some k) : w'.ownsRow base' e s v n xs :=
  own_same ho fun k hk hl => h.other k hl (hq k hk)
theorem RowM.here {base : Nat} {w w' : World} {m : UInt8} {v : Value} {n k : Nat} (h : RowM base w m v n k) (hb : Below w.heap.size w w') : RowM base w' m v n k := by
  obtain ⟨xs, h1, h3⟩ := h.is
  refine ⟨xs, own_same h1 (fun k _ hl => hb.block k hl), fun j hj => ?_⟩
  obtain ⟨u0, u1, f0, f1, hM⟩ := h3 j hj
  exact ⟨u0, u1, f0, f1, hM.stay (Below.bytes8 hb)⟩
/-- One more of them is marked. -/
theorem RowM.next {base : Nat} {w : World} {m : UInt8} {g n c k : Nat} {u0 u1 : Value} (h : RowM base w m (.slice (some ⟨g, 0, none⟩) n c) n k) (hk : k < n) (hm : IsM base w m u0 u1) :
    RowM base ((w.setCell ⟨g, k * 2, none⟩ u0).setCell ⟨g, k * 2 + 1, none⟩ u1) m (.slice (some ⟨g, 0, none⟩) n c) n (k + 1) ∧ MkE base (some g) m w ((w.setCell ⟨g, k * 2, none⟩ u0).setCell ⟨g, k * 2 + 1, none⟩ u1) := by
  obtain ⟨xs, ⟨h1, h2⟩, h3⟩ := h.is
  rcases h2 with ⟨e, h0⟩ | ⟨g', cap, cur, e, hb, hg, hc, hml, hs, ht⟩
  · omega
  · cases e
    have hM : MkE base (some g) m w ((w.setCell ⟨g, k * 2, none⟩ u0).setCell ⟨g, k * 2 + 1, none⟩ u1) := MkE.set hg (by omega) hm
    refine ⟨⟨_, ⟨?_, .inr ⟨g, c, _, rfl, hb, heap_set_same u1 (heap_set_same u0 hg), hc, hml, by simpa using hs, rfl⟩⟩, fun j hj => ?_⟩, hM⟩
    · simp; omega
    · rw [xs_cell rfl (by omega), xs_cell rfl (by omega)]
      by_cases e : j = k
      · subst e
        refine ⟨u0, u1, ?_, ?_, hm.stay hM.bytes⟩
        · rw [Array.getElem?_setIfInBounds, if_neg (by omega), Array.getElem?_setIfInBounds, if_pos rfl, if_pos (by omega)]
        · rw [Array.getElem?_setIfInBounds, if_pos rfl, if_pos (by simp; omega)]
      · obtain ⟨v0, v1, f0, f1, hv⟩ := h3 j (by omega)
        rw [xs_cell ht (by omega)] at f0 f1
        refine ⟨v0, v1, ?_, ?_, hv.stay hM.bytes⟩
        · rw [Array.getElem?_setIfInBounds, if_neg (by omega), Array.getElem?_setIfInBounds, if_neg (by omega)]
          exact f0
        · rw [Array.getElem?_setIfInBounds, if_neg (by omega), Array.getElem?_setIfInBounds, if_neg (by omega)]
          exact f1
/-- One more of them is marked, by new bytes. -/
theorem RowM.fill {base : Nat} {w : World} {m : UInt8} {g n c k : Nat} (h : RowM base w m (.slice (some ⟨g, 0, none⟩) n c) n k) (hk : k < n) (hB : base ≤ w.heap.size) :
    RowM base ((((w.setCell ⟨g, k * 2, none⟩ (.slice (some ⟨w.heap.size, 0, none⟩) 1 1)).setCell ⟨g, k * 2 + 1, none⟩ (.slice none 0 0)).alloc (.cells #[.int .u8 (m.toNat : Int)] 5)).drew) m (.slice (some ⟨g, 0, none⟩) n c) n (k + 1) ∧
    MkE base (some g) m w ((((w.setCell ⟨g, k * 2, none⟩ (.slice (some ⟨w.heap.size, 0, none⟩) 1 1)).setCell ⟨g, k * 2 + 1, none⟩ (.slice none 0 0)).alloc (.cells #[.int .u8 (m.toNat : Int)] 5)).drew) := by
  have hgl : g < w.heap.size := by
    obtain ⟨xs, h1, _⟩ := h.is
    exact (own_type h1 g rfl).1
  have hb : Below w.heap.size w (w.alloc (.cells #[.int .u8 (m.toNat : Int)] 5)) := (Below.refl _ _).alloc (Nat.le_refl _) _
  have hm : IsM base (w.alloc (.cells #[.int .u8 (m.toNat : Int)] 5)) m (.slice (some ⟨w.heap.size, 0, none⟩) 1 1) (.slice none 0 0) := ⟨⟨_, rfl, hB, heap_alloc_last w _⟩, rfl⟩
  obtain ⟨k1, k2⟩ := (h.here hb).next hk hm
  have e : ((w.alloc (.cells #[.int .u8 (m.toNat : Int)] 5)).setCell ⟨g, k * 2, none⟩ (.slice (some ⟨w.heap.size, 0, none⟩) 1 1)).setCell ⟨g, k * 2 + 1, none⟩ (.slice none 0 0) = ((w.setCell ⟨g, k * 2, none⟩ (.slice (some ⟨w.heap.size, 0, none⟩) 1 1)).setCell ⟨g, k * 2 + 1, none⟩ (.slice none 0 0)).alloc (.cells #[.int .u8 (m.toNat : Int)] 5) := by
    rw [World.setCell_alloc_past (hn := hgl), World.setCell_alloc_past (hn := by simpa using hgl)]
  rw [e] at k1 k2
  exact ⟨k1.here ((Below.refl _ _).drew), ((MkE.of_below hb).trans k2).trans (MkE.of_below ((Below.refl _ _).drew))⟩
/-- One marked entry more onto a row of that mark, which others may share. -/
theorem wpList_append_markE {w : World} {ops : Array Oper} {rest : List Oper} {o : Oper} {a : Act} {Q : Exit → Act → World → Prop} (hgd : o.guard = none) (s x : Operand)
    (ho : o.op = .call { callee := .builtin .append, args := #[s, x], argTypes := #[25, 25] }) (base : Nat)
    (w0 : World) (m : UInt8) (u0 u1 : Value) (hw : w = w0.alloc (.cells #[u0, u1] 47)) (hm : IsM base w0 m u0 u1)
    (v : Value) (n : Nat) (hs : a.eval s = v) (hown : RowM base w0 m v n n)
    (H : Nat) (hH : w0.heap.size = H) (hx : a.eval x = .slice (some ⟨H, 0, none⟩) 1 1) (hlen : (n + 1) * 48 ≤ 140737488355328) (hbase : base ≤ w0.heap.size)
    (h : ∀ v' w', RowM base w' m v' (n + 1) (n + 1) → MkE base v.ownBlock m w0 w' → (v'.ownBlock = v.ownBlock ∨ ∃ g, v'.ownBlock = some g ∧ w0.heap.size ≤ g) → wpList Try.prog ops Q rest (a.put o.dst v') w') : wpList Try.prog ops Q (o :: rest) a w := by
  subst hw
  subst hH
  obtain ⟨i0, hi, hz0, hz1, hz2⟩ := infoE'
  have hb : Below w0.heap.size w0 (w0.alloc (.cells #[u0, u1] 47)) := (Below.refl _ _).alloc (Nat.le_refl _) _
  have hnews : ∀ (j : Nat) (u : Value), [u0, u1][j]? = some u → (w0.alloc (.cells #[u0, u1] 47)).cell? ((⟨w0.heap.size, 0, none⟩ : Addr).add j) = some u := fun j u hj => by
    rw [add_at, row_cell (heap_alloc_last w0 _)]
    simpa using hj
  have hone : ∀ u ∈ [u0, u1], u.oneCell' = true := fun u hu => by
    obtain ⟨⟨g, e, _⟩, e1⟩ := hm
    simp at hu
    rcases hu with rfl | rfl
    · rw [e]; rfl
    · rw [e1]; rfl
  have hm1 : IsM base (w0.alloc (.cells #[u0, u1] 47)) m u0 u1 := hm.stay (Below.bytes8 hb)
  obtain ⟨xs, ⟨hl, hr⟩, hmk⟩ := hown.is
  rcases hr with ⟨rfl, rfl⟩ | ⟨g, cap, cur, rfl, hbg, hg, hc, hml, hcs, ht⟩
  · refine wpList_append_lies _ hgd s x 25 ho base 47 i0 _ 2 48 Try.underlying25 hi hz0 hz1 hz2 rfl (by decide) (.slice none 0 0) 0 [] hs (World.ownsRow_nil _ _ _ _) ⟨w0.heap.size, 0, none⟩ 1 1 [u0, u1] hx rfl hnews hone (by decide) (by unfold maxLen; omega) (by omega) (Nat.le_trans hbase hb.size) _ rfl ?_
    intro g cap w' ho' hg' hat _
    have hgn : g = (w0.alloc (.cells #[u0, u1] 47)).heap.size := by rcases hat with e | e; (cases e); exact e
    have hbw : Below w0.heap.size w0 w' := ⟨hg'.os, hg'.tape, hg'.output, Nat.le_trans hb.size hg'.size, fun k hk => (hg'.block k (Nat.lt_of_lt_of_le hk hb.size) (fun e => by cases e)).trans (hb.block k hk)⟩
    refine h _ w' ⟨_, ho', fun j hj => ⟨u0, u1, ?_, ?_, hm.stay (Below.bytes8 hbw)⟩⟩ (MkE.of_below hbw) (.inr ⟨g, rfl, by rw [hgn]; exact hb.size⟩)
    · rw [show j = 0 by omega]; rfl
    · rw [show j = 0 by omega]; rfl
  · have hgl := (Array.getElem?_eq_some_iff.1 hg).1
    have hgw : (w0.alloc (.cells #[u0, u1] 47)).heap[g]? = some (.cells cur 47 (0, 0)) := by rw [Below.heap_alloc _ _ _ hgl]; exact hg
    have hown1 : (w0.alloc (.cells #[u0, u1] 47)).ownsRow base 47 2 (.slice (some ⟨g, 0, none⟩) n cap) n xs := ⟨hl, .inr ⟨g, cap, cur, rfl, hbg, hgw, hc, hml, hcs, ht⟩⟩
    refine wpList_append_arg _ hgd s x 25 ho 47 i0 _ 2 48 Try.underlying25 hi hz0 hz1 hz2 rfl (by decide) g 0 n cap xs hs hl ?_ ⟨w0.heap.size, 0, none⟩ 1 1 [u0, u1] hx rfl hnews hone ?_ (by unfold maxLen; omega) (by omega) ?_ ?_
    · intro j u hj
      have hjl := (List.getElem?_eq_some_iff.1 hj).1
      rw [Nat.zero_add, row_cell hgw, ← xs_cell ht (by omega)]
      exact hj
    · intro hr j hj
      have hj2 : j < 2 := by simpa using hj
      refine ⟨?_, row_frozen hgw _⟩
      have e1 := row_cell hgw (0 + n * 2 + j)
      rw [Array.getElem?_eq_getElem (show 0 + n * 2 + j < cur.size by omega)] at e1
      exact (congrArg Option.isSome e1).trans rfl
    · intro hr
      have hset : ((w0.alloc (.cells #[u0, u1] 47)).setCell ⟨g, n * 2, none⟩ u0).setCell ⟨g, n * 2 + 1, none⟩ u1 = (w0.alloc (.cells #[u0, u1] 47)).setCells g (0 + n * 2) [u0, u1] := by
        rw [Nat.zero_add]; rfl
      rw [← hset]
      have hM : MkE base (some g) m (w0.alloc (.cells #[u0, u1] 47)) (((w0.alloc (.cells #[u0, u1] 47)).setCell ⟨g, n * 2, none⟩ u0).setCell ⟨g, n * 2 + 1, none⟩ u1) := MkE.set hgw (by omega) hm1
      refine h (.slice (some ⟨g, 0, none⟩) (n + 1) cap) _ ⟨_, ⟨?_, .inr ⟨g, cap, _, rfl, hbg, heap_set_same u1 (heap_set_same u0 hgw), hr, hml, by simpa using hcs, rfl⟩⟩, fun j hj => ?_⟩ ((MkE.of_below hb).trans hM) (.inl rfl)
      · simp; omega
      · rw [xs_cell rfl (by omega), xs_cell rfl (by omega)]
        by_cases e : j = n
        · subst e
          refine ⟨u0, u1, ?_, ?_, hm1.stay hM.bytes⟩
          · rw [Array.getElem?_setIfInBounds, if_neg (by omega), Array.getElem?_setIfInBounds, if_pos rfl, if_pos (by omega)]
          · rw [Array.getElem?_setIfInBounds, if_pos rfl, if_pos (by simp; omega)]
        · obtain ⟨v0, v1, f0, f1, hv⟩ := hmk j (by omega)
          rw [xs_cell ht (by omega)] at f0 f1
          refine ⟨v0, v1, ?_, ?_, (hv.stay (Below.bytes8 hb)).stay hM.bytes⟩
          · rw [Array.getElem?_setIfInBounds, if_neg (by omega), Array.getElem?_setIfInBounds, if_neg (by omega)]
            exact f0
          · rw [Array.getElem?_setIfInBounds, if_neg (by omega), Array.getElem?_setIfInBounds, if_neg (by omega)]
            exact f1
    · intro hr v' w' ho' hg'
      have hbw : Below w0.heap.size w0 w' := ⟨hg'.os, hg'.tape, hg'.output, Nat.le_trans hb.size hg'.size, fun k hk => (hg'.block k (Nat.lt_of_lt_of_le hk hb.size) (fun e => by cases e)).trans (hb.block k hk)⟩
      refine h v' w' ⟨_, own_mono ho' (Nat.le_trans hbase hb.size), fun j hj => ?_⟩ (MkE.of_below hbw) (.inr ?_)
      · by_cases e : j = n
        · subst e
          refine ⟨u0, u1, ?_, ?_, hm.stay (Below.bytes8 hbw)⟩
          · rw [List.getElem?_append_right (by omega), hl, Nat.sub_self]; rfl
          · rw [List.getElem?_append_right (by omega), hl, show j * 2 + 1 - j * 2 = 1 by omega]; rfl
        · obtain ⟨v0, v1, f0, f1, hv⟩ := hmk j (by omega)
          exact ⟨v0, v1, by rw [List.getElem?_append_left (by omega)]; exact f0, by rw [List.getElem?_append_left (by omega)]; exact f1, hv.stay (Below.bytes8 hbw)⟩
      · rcases ho'.2 with ⟨_, e⟩ | ⟨g', cap', cur', rfl, hb', _⟩
        · omega
        · exact ⟨g', rfl, Nat.le_trans hb.size hb'⟩
end Go.Proofs.Ytgifnaahahfhbaa
