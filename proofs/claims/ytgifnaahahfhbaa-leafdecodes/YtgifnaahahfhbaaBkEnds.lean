/- The law's Book: ends. -/
import Derived.Test.YtgifnaahahfhbaaBkKeep
import Derived.BigQuiet
import Derived.Deep.RegionHeldLaw
namespace Go.Proofs.Ytgifnaahahfhbaa
open Go.RowKit

variable {ve : Value}

/-- All that is no row of bytes stays. -/
abbrev OldT (w w' : World) : Prop := ∀ (k : Nat) (cur : Array Value) (t : TypeId), t ≠ 5 → w.heap[k]? = some (.cells cur t (0, 0)) → w'.heap[k]? = some (.cells cur t (0, 0))
theorem OldT.below {w w1 w2 : World} (h : OldT w w1) (hb : Below w1.heap.size w1 w2) : OldT w w2 := fun k cur t ht hk => by
  have h1 := h k cur t ht hk
  rw [hb.block k (Array.getElem?_eq_some_iff.1 h1).1]
  exact h1
theorem OldT.marked {w w1 w2 : World} (h : OldT w w1) {v : Value} {m : UInt8} (hm : Marked v.ownBlock m w1 w2) {base n : Nat} {xs : List Value} (ho : w1.ownsRow base 5 1 v n xs) : OldT w w2 := fun k cur t ht hk => by
  have h1 := h k cur t ht hk
  rw [hm.other k (Array.getElem?_eq_some_iff.1 h1).1 fun e => ?_]
  · exact h1
  · obtain ⟨_, _, c, hc⟩ := own_type ho k e
    exact ht (tagB_ne h1 hc)
/-- A Book's list of slices, as it lies. -/
structure Lay (ve : Value) (w : World) (base b : Nat) (vl vw : Value) (items : List (Value × List UInt8)) : Prop where
  cells : w.heap[b]? = some (.cells #[vl, vw, ve] 31 (0, 0))
  low : base ≤ b
  rowL : w.ownsRow base 39 1 vl items.length (items.map (·.1))
theorem Book.lay {w : World} {base b : Nat} {vl vw : Value} {items : List (Value × List UInt8)} {was : List Value} (h : Book ve w base b vl vw items was) : Lay ve w base b vl vw items := ⟨h.cells, h.low, h.rowL⟩
theorem Lay.moved {w w' : World} {base b : Nat} {vl vw : Value} {items : List (Value × List UInt8)} (h : Lay ve w base b vl vw items) (hb : w'.heap[b]? = w.heap[b]?) (hl : ∀ k, vl.ownBlock = some k → w'.heap[k]? = w.heap[k]?) : Lay ve w' base b vl vw items :=
  ⟨by rw [hb]; exact h.cells, h.low, own_same h.rowL fun k hk _ => hl k hk⟩
theorem Lay.here {w w' : World} {base b : Nat} {vl vw : Value} {items : List (Value × List UInt8)} (h : Lay ve w base b vl vw items) (hb : Below w.heap.size w w') : Lay ve w' base b vl vw items :=
  h.moved (hb.block _ (Array.getElem?_eq_some_iff.1 h.cells).1) (fun k hk => hb.block _ (own_type h.rowL k hk).1)
/-- Bytes change, the list stays. -/
theorem Lay.marked {w w' : World} {base b : Nat} {vl vw : Value} {items : List (Value × List UInt8)} (h : Lay ve w base b vl vw items) {v : Value} {m : UInt8} (hm : Marked v.ownBlock m w w') {n : Nat} {xs : List Value} (ho : w.ownsRow base 5 1 v n xs) : Lay ve w' base b vl vw items := by
  refine h.moved (hm.other b (Array.getElem?_eq_some_iff.1 h.cells).1 fun e => ?_) (fun k hk => hm.other k (own_type h.rowL k hk).1 fun e => ?_)
  · obtain ⟨_, _, c, hc⟩ := own_type ho b e
    exact absurd (tagB_ne hc h.cells) (by decide)
  · obtain ⟨_, _, c, hc⟩ := own_type ho k e
    obtain ⟨_, _, c', hc'⟩ := own_type h.rowL k hk
    exact absurd (tagB_ne hc hc') (by decide)
theorem Lay.at {w : World} {base b : Nat} {vl vw : Value} {items : List (Value × List UInt8)} (h : Lay ve w base b vl vw items) (i : Nat) (v : Value) (bs : List UInt8) (hi : items[i]? = some (v, bs)) :
    ∃ gl cl, vl = .slice (some ⟨gl, 0, none⟩) items.length cl ∧ w.cell? ⟨gl, i, none⟩ = some v ∧ (∃ cur, w.heap[gl]? = some (.cells cur 39 (0, 0))) := by
  have hil := (List.getElem?_eq_some_iff.1 hi).1
  rcases h.rowL.2 with ⟨_, e⟩ | ⟨g, cap, cur, rfl, _, hg, hc, _, hs, ht⟩
  · omega
  · refine ⟨g, cap, rfl, ?_, cur, hg⟩
    rw [row_cell hg]
    have := congrArg (fun l => l[i]?) ht
    simp only [List.getElem?_take, List.getElem?_map, hi] at this
    rw [if_pos (by omega), Array.getElem?_toList] at this
    exact this
theorem Lay.book {w : World} {base b : Nat} {vl vw : Value} {items : List (Value × List UInt8)} (h : Lay ve w base b vl vw items) : w.cell? ⟨b, 0, none⟩ = some vl ∧ w.cell? ⟨b, 1, none⟩ = some vw := ⟨by rw [row_cell h.cells]; rfl, by rw [row_cell h.cells]; rfl⟩
theorem Lay.len {w : World} {base b : Nat} {vl vw : Value} {items : List (Value × List UInt8)} (h : Lay ve w base b vl vw items) : ∃ al cl, vl = .slice al items.length cl := by
  rcases h.rowL.2 with ⟨e, e'⟩ | ⟨g, cap, cur, rfl, _⟩
  · exact ⟨none, 0, by rw [e, e']⟩
  · exact ⟨_, _, rfl⟩
theorem Lay.low' {w : World} {base b : Nat} {vl vw : Value} {items : List (Value × List UInt8)} (h : Lay ve w base b vl vw items) : b < w.heap.size := (Array.getElem?_eq_some_iff.1 h.cells).1

/-- The rows, those below i filled with their marks. -/
def Rows2 (w : World) (base : Nat) (items : List (Value × List UInt8)) (i : Nat) : Prop :=
  ∀ (j : Nat) v bs, items[j]? = some (v, bs) → w.ownsRow base 5 1 v bs.length ((if j < i then List.replicate bs.length (markOf j) else bs).map encB)
def Alone (items : List (Value × List UInt8)) : Prop := ∀ (i j : Nat) v bs v' bs' k, items[i]? = some (v, bs) → items[j]? = some (v', bs') → v.ownBlock = some k → v'.ownBlock = some k → i = j

theorem fill_next (bs : List UInt8) (m : UInt8) (k : Nat) (hk : k < bs.length) : ((List.replicate k m ++ bs.drop k).map encB).set k (.int .u8 (m.toNat : Int)) = (List.replicate (k + 1) m ++ bs.drop (k + 1)).map encB := by
  have e : (.int .u8 (m.toNat : Int)) = encB m := rfl
  have e2 : (List.replicate k m ++ bs.drop k).set k m = List.replicate (k + 1) m ++ bs.drop (k + 1) := by
    rw [List.set_append_right _ _ (by simp), List.drop_eq_getElem_cons hk, List.length_replicate, Nat.sub_self, List.set_cons_zero, List.replicate_succ', List.append_assoc]
    rfl
  rw [e, ← List.map_set, e2]
theorem Rows2.next {w w' : World} {base : Nat} {items : List (Value × List UInt8)} {i : Nat} (h : Rows2 w base items i) (ha : Alone items) {v : Value} {bs : List UInt8} (hi : items[i]? = some (v, bs)) (hm : Marked v.ownBlock (markOf i) w w')
    (ho : w'.ownsRow base 5 1 v bs.length ((List.replicate bs.length (markOf i)).map encB)) : Rows2 w' base items (i + 1) := fun j v' bs' hj => by
  by_cases e : j = i
  · subst e
    rw [hi] at hj
    cases hj
    rw [if_pos (by omega)]
    exact ho
  · have h1 := h j v' bs' hj
    have e2 : (if j < i + 1 then List.replicate bs'.length (markOf j) else bs') = (if j < i then List.replicate bs'.length (markOf j) else bs') := by
      by_cases hji : j < i
      · rw [if_pos hji, if_pos (by omega)]
      · rw [if_neg hji, if_neg (by omega)]
    rw [e2]
    exact hm.keep h1 fun k hk hk' => e (ha j i v' bs' v bs k hj hi hk hk')

/-- Made longer, i of them. -/
structure L4 (ve : Value) (w : World) (S base b : Nat) (vl vw : Value) (items : List (Value × List UInt8)) (i : Nat) (lv : Value) (longs : List Value) (wr : World) : Prop where
  rowG : wr.ownsRow base 39 1 lv (2 * i) longs
  fresh : ∀ k, lv.ownBlock = some k → S ≤ k
  lay : Lay ve wr base b vl vw items
  marks : ∀ (j : Nat) v bs, items[j]? = some (v, bs) → wr.ownsRow base 5 1 v bs.length (List.replicate bs.length (encB (markOf j)))
  long : ∀ (j : Nat) v bs, j < i → items[j]? = some (v, bs) → ∃ g h, longs[2 * j]? = some g ∧ longs[2 * j + 1]? = some h ∧
    wr.ownsRow base 5 1 g (bs.length + 20) (List.replicate (bs.length + 20) (encB (markOf j))) ∧ wr.ownsRow base 5 1 h (bs.length + 90) (List.replicate (bs.length + 90) (encB (markOf j))) ∧
    (g.ownBlock = v.ownBlock ∨ ∃ k, g.ownBlock = some k ∧ S ≤ k) ∧ (h.ownBlock = v.ownBlock ∨ ∃ k, h.ownBlock = some k ∧ S ≤ k)
  size : S ≤ wr.heap.size
  below : Below base w wr
  old : ∀ k, vl.ownBlock = some k → k < S
  oldI : ∀ (j : Nat) v bs k, items[j]? = some (v, bs) → v.ownBlock = some k → k < S
  hb : base ≤ S
  oldT : OldT w wr
  hw : w.heap.size ≤ S
theorem L4.next {w : World} {S base b : Nat} {vl vw : Value} {items : List (Value × List UInt8)} {i : Nat} {lv : Value} {longs : List Value} {wi wg wh wL : World} (L : L4 ve w S base b vl vw items i lv longs wi) (ha : Alone items) {v : Value} {bs : List UInt8} (hi : items[i]? = some (v, bs))
    (m1 : Marked v.ownBlock (markOf i) wi wg) {g h : Value} (hg : wg.ownsRow base 5 1 g (bs.length + 20) (List.replicate (bs.length + 20) (encB (markOf i)))) (bg : g.ownBlock = v.ownBlock ∨ ∃ k, g.ownBlock = some k ∧ wi.heap.size ≤ k)
    (m2 : Marked v.ownBlock (markOf i) wg wh) (hh : wh.ownsRow base 5 1 h (bs.length + 90) (List.replicate (bs.length + 90) (encB (markOf i)))) (bh : h.ownBlock = v.ownBlock ∨ ∃ k, h.ownBlock = some k ∧ wg.heap.size ≤ k)
    {gL cL : Nat} (ho : wL.ownsRow base 39 1 (.slice (some ⟨gL, 0, none⟩) (2 * i + 2) cL) (2 * i + 2) (longs ++ [g, h])) (hgr : (wh.alloc (.cells #[g, h] 39)).grownBy wL lv.ownBlock) (hat : lv.ownBlock = some gL ∨ gL = (wh.alloc (.cells #[g, h] 39)).heap.size) :
    L4 ve w S base b vl vw items (i + 1) (.slice (some ⟨gL, 0, none⟩) (2 * i + 2) cL) (longs ++ [g, h]) wL := by
  have M := m1.trans m2
  have hvS : ∀ k, v.ownBlock = some k → k < S := fun k hk => L.oldI i v bs k hi hk
  have hrow := L.marks i v bs hi
  have hvb : ∀ k, v.ownBlock = some k → base ≤ k := fun k hk => (own_type hrow k hk).2.1
  have hz := L.size
  have hz1 := m1.size
  have hz2 := m2.size
  have hz3 := hgr.size
  simp only [World.alloc, Array.size_push] at hz3
  have lvh : wh.ownsRow base 39 1 lv (2 * i) longs := M.keep L.rowG fun k hk e => by have := L.fresh k hk; have := hvS k e; omega
  have layh : Lay ve wh base b vl vw items := L.lay.marked M hrow
  have up : ∀ k : Nat, k < wh.heap.size → lv.ownBlock ≠ some k → wL.heap[k]? = wh.heap[k]? := fun k hk hkl => by
    rw [hgr.block k (by simp; omega) (fun e => hkl e.symm), Below.heap_alloc _ _ _ hk]
  have upB : ∀ {n : Nat} {u : Value} {xs : List Value}, wh.ownsRow base 5 1 u n xs → wL.ownsRow base 5 1 u n xs := fun hu => own_same hu fun k hk hl => up k hl fun e => by
    obtain ⟨_, _, c, hc⟩ := own_type hu k hk
    obtain ⟨_, _, c', hc'⟩ := own_type lvh k e
    exact absurd (tagB_ne hc hc') (by decide)
  have hlen : longs.length = 2 * i := by have := L.rowG.1; simpa using this
  refine ⟨?_, ?_, ?_, ?_, ?_, by omega, ?_, L.old, L.oldI, L.hb, ?_, L.hw⟩
  · exact ho
  · intro k hk
    cases hk
    rcases hat with e | e
    · exact L.fresh gL e
    · rw [e]; simp; omega
  · refine layh.moved (up b layh.low' fun e => ?_) (fun k hk => up k (own_type layh.rowL k hk).1 fun e => ?_)
    · obtain ⟨_, _, c', hc'⟩ := own_type lvh b e
      exact absurd (tagB_ne layh.cells hc') (by decide)
    · have := L.fresh k e
      have := L.old k hk
      omega
  · intro j v' bs' hj
    by_cases e : j = i
    · subst e
      rw [hi] at hj
      cases hj
      exact upB (M.row hrow)
    · exact upB (M.keep (L.marks j v' bs' hj) fun k hk hk' => e (ha j i v' bs' v bs k hj hi hk hk'))
  · intro j v' bs' hji hj
    by_cases e : j = i
    · subst e
      rw [hi] at hj
      cases hj
      refine ⟨g, h, by rw [List.getElem?_append_right (by omega), hlen, Nat.sub_self]; rfl, by rw [List.getElem?_append_right (by omega), hlen, show 2 * j + 1 - 2 * j = 1 by omega]; rfl, upB (m2.row hg), upB hh, ?_, ?_⟩
      · rcases bg with e | ⟨k, e, hk⟩
        · exact .inl e
        · exact .inr ⟨k, e, by omega⟩
      · rcases bh with e | ⟨k, e, hk⟩
        · exact .inl e
        · exact .inr ⟨k, e, by omega⟩
    · obtain ⟨g', h', e1, e2, r1, r2, b1, b2⟩ := L.long j v' bs' (by omega) hj
      have away : ∀ u : Value, (u.ownBlock = v'.ownBlock ∨ ∃ k, u.ownBlock = some k ∧ S ≤ k) → ∀ k, u.ownBlock = some k → v.ownBlock ≠ some k := fun u hu k hk hk' => by
        rcases hu with h1 | ⟨k2, h1, h2⟩
        · exact e (ha j i v' bs' v bs k hj hi (by rw [← h1]; exact hk) hk')
        · rw [h1] at hk
          obtain rfl : k2 = k := Option.some.inj hk
          have := hvS k2 hk'
          omega
      refine ⟨g', h', by rw [List.getElem?_append_left (by omega)]; exact e1, by rw [List.getElem?_append_left (by omega)]; exact e2, upB (M.keep r1 (away g' b1)), upB (M.keep r2 (away h' b2)), b1, b2⟩
  · have hbS := L.hb
    refine L.below.trans ⟨?_, ?_, ?_, by omega, fun k hk => ?_⟩
    · exact hgr.os.trans M.os
    · exact hgr.tape.trans M.tape
    · exact hgr.output.trans M.output
    · rw [up k (by omega) (fun e => by have := (own_type lvh k e).2.1; omega)]
      exact M.other k (by omega) (fun e => by have := hvb k e; omega)
  · intro k cur t ht hk
    have hkl := (Array.getElem?_eq_some_iff.1 hk).1
    have hws := L.hw
    have h1 := (L.oldT.marked M hrow) k cur t ht hk
    rw [up k (Array.getElem?_eq_some_iff.1 h1).1 fun e => by have := L.fresh k e; omega]
    exact h1
theorem own_one {w : World} {base e n : Nat} {v : Value} {xs : List Value} (h : w.ownsRow base e 1 v n xs) : v.oneCell' = true := by
  rcases h.2 with ⟨rfl, _⟩ | ⟨g, cap, cur, rfl, _⟩ <;> rfl

theorem L4.here {w : World} {S base b : Nat} {vl vw : Value} {items : List (Value × List UInt8)} {i : Nat} {lv : Value} {longs : List Value} {wr wr' : World} (L : L4 ve w S base b vl vw items i lv longs wr) (hb : Below wr.heap.size wr wr') : L4 ve w S base b vl vw items i lv longs wr' :=
  ⟨own_same L.rowG fun k _ hk => hb.block k hk, L.fresh, L.lay.here hb, fun j v bs hj => own_same (L.marks j v bs hj) fun k _ hk => hb.block k hk, fun j v bs hji hj => by
    obtain ⟨g, h, e1, e2, r1, r2, b1, b2⟩ := L.long j v bs hji hj
    exact ⟨g, h, e1, e2, own_same r1 fun k _ hk => hb.block k hk, own_same r2 fun k _ hk => hb.block k hk, b1, b2⟩, Nat.le_trans L.size hb.size, L.below.trans (hb.mono (Nat.le_trans L.hb L.size)), L.old, L.oldI, L.hb, L.oldT.below hb, L.hw⟩
theorem full_slice {w : World} {base n : Nat} {v : Value} {m : UInt8} (h : w.ownsRow base 5 1 v n (List.replicate n (encB m))) : ∃ a c, v = .slice a n c ∧ BytesAt w.heap.size w a (List.replicate n m) := by
  rw [repl_enc] at h
  obtain ⟨a, c, e, hb, _⟩ := bytes_own h
  exact ⟨a, c, e, hb⟩
theorem row27_at {w : World} {base n : Nat} {v : Value} {xs : List Value} (h : w.ownsRow base 39 1 v n xs) (j : Nat) (u : Value) (hj : xs[j]? = some u) : ∃ g c, v = .slice (some ⟨g, 0, none⟩) n c ∧ w.cell? ⟨g, j, none⟩ = some u := by
  have hjl := (List.getElem?_eq_some_iff.1 hj).1
  have hl : xs.length = n := by have := h.1; simpa using this
  rcases h.2 with ⟨_, e⟩ | ⟨g, cap, cur, rfl, _, hg, hc, _, hs, ht⟩
  · omega
  · refine ⟨g, cap, rfl, ?_⟩
    rw [row_cell hg]
    have := congrArg (fun l => l[j]?) ht
    simp only [List.getElem?_take, hj] at this
    rw [if_pos (by omega), Array.getElem?_toList] at this
    exact this

set_option maxHeartbeats 3200000 in
set_option maxRecDepth 100000 in
theorem ends_any (w : World) (base b : Nat) (vl vw : Value) (items : List (Value × List UInt8)) (was : List Value) (H : Book ve w base b vl vw items was) (hbase : base ≤ w.heap.size) (hil : items.length ≤ 1000000) (hbl : ∀ (i : Nat) v bs, items[i]? = some (v, bs) → bs.length ≤ 1099511627776)
    (hout : ∀ W, Below base w W → OldT w W → W.cell? ⟨b, 2, none⟩ = some ve → Calls Try.prog 39 #[.pointer (some ⟨b, 0, none⟩)] W fun e w' => e = .returned (.bool true) ∧ Below base W w') :
    Calls Try.prog 16 #[.pointer (some ⟨b, 0, none⟩)] w fun e w' => e = .returned (.bool true) ∧ Below base w w' := by
  have HH : Hid (Book ve w base b vl vw items was) := H
  have HBL : Hid _ := hbl
  have HO : Hid (∀ W, Below base w W → OldT w W → W.cell? ⟨b, 2, none⟩ = some ve → Calls Try.prog 39 #[.pointer (some ⟨b, 0, none⟩)] W fun e w' => e = .returned (.bool true) ∧ Below base W w') := hout
  have HAL : Hid (Alone items) := H.alone
  obtain ⟨al, cl, rfl⟩ := H.lay.len
  obtain ⟨aw, cw, rfl⟩ : ∃ aw cw, vw = .slice aw items.length cw := by
    rcases H.rowW.2 with ⟨e, e'⟩ | ⟨g, cap, cur, e, _⟩
    · exact ⟨none, 0, by rw [e, e']⟩
    · exact ⟨_, _, e⟩
  have hlw : was.length = items.length := by have := H.rowW.1; simpa using this
  have HLW : Hid _ := hlw
  clear H hbl hlw hout
  go_enter Try.func16, Try.ntmps16
  go_wp2
  go_loopw [3] (fun s wr => ∃ i : Nat, i ≤ items.length ∧ s = .int .i64 i ∧ Book ve wr base b (.slice al items.length cl) (.slice aw items.length cw) items was ∧ Below base w wr ∧ base ≤ wr.heap.size ∧ OldT w wr ∧ w.heap.size ≤ wr.heap.size) (fun s _ => items.length - (intOf s).toNat)
  case atStart => exact ⟨0, by omega, rfl, HH.out, Below.refl _ _, hbase, fun _ _ _ _ h => h, Nat.le_refl _⟩
  case round =>
    obtain ⟨i, hi, rfl, hB, hbe, hbs, hot, how⟩ := hrel
    have HOT : Hid (OldT w wr ∧ w.heap.size ≤ wr.heap.size) := ⟨hot, how⟩
    clear hot how
    have HB : Hid (Book ve wr base b (.slice al items.length cl) (.slice aw items.length cw) items was) := hB
    have HBE : Hid (Below base w wr) := hbe
    have HBS : Hid (base ≤ wr.heap.size) := hbs
    obtain ⟨p0, p1⟩ := hB.lay.book
    by_cases hlt : i < items.length
    · have hiz : (i : Int) < (items.length : Int) := by omega
      obtain ⟨⟨v, bs⟩, hv⟩ : ∃ x, items[i]? = some x := ⟨_, List.getElem?_eq_getElem hlt⟩
      obtain ⟨u, hu⟩ : ∃ u, was[i]? = some u := ⟨_, List.getElem?_eq_getElem (by rw [HLW.out]; exact hlt)⟩
      obtain ⟨gl, cl', e1, q1, _⟩ := hB.lay.at i v bs hv
      cases e1
      obtain ⟨gw, rfl, q2⟩ : ∃ gw, aw = some ⟨gw, 0, none⟩ ∧ wr.cell? ⟨gw, i, none⟩ = some u := by
        rcases hB.rowW.2 with ⟨_, e⟩ | ⟨g, cap, cur, e, _, hg, hc, _, hs, ht⟩
        · omega
        · cases e
          refine ⟨g, rfl, ?_⟩
          rw [row_cell hg]
          have := congrArg (fun l => l[i]?) ht
          simp only [List.getElem?_take, hu] at this
          rw [if_pos (by omega), Array.getElem?_toList] at this
          exact this
      obtain ⟨a1, c1, rfl, y1, l1, _, _⟩ := bytes_own (hB.item i v bs hv)
      obtain ⟨a2, c2, rfl, y2, l2, _, _⟩ := bytes_own (hB.wasI i _ bs u hv hu)
      have cv1 : ∀ k, (convert 39 9 (.slice a1 bs.length c1)).run Try.prog (wr.drewN k) = .ok (.string (strB bs)) (wr.drewN k) := fun k => conv_any _ _ (y1.here (below_draws (Below.refl _ _) k)) rfl
      have cv2 : ∀ k, (convert 39 9 (.slice a2 bs.length c2)).run Try.prog (wr.drewN k) = .ok (.string (strB bs)) (wr.drewN k) := fun k => conv_any _ _ (y2.here (below_draws (Below.refl _ _) k)) rfl
      clear hB hbe hbs y1 y2 hv hu l1 l2
      go_wp2
      go_quiet (fail)
      go_wp2
      refine ⟨⟨i + 1, by omega, by go_num, HB.out.here (below_draws (Below.refl _ _) nq), below_draws HBE.out nq, HBS.out, OldT.below HOT.out.1 (below_draws (Below.refl _ _) nq), HOT.out.2⟩, by simp [intOf]; omega⟩
    · obtain rfl : i = items.length := by omega
      have HL1 : Hid (Lay ve wr base b (.slice al items.length cl) (.slice aw items.length cw) items) := hB.lay
      have HR1 : Hid (Rows2 wr base items 0) := fun j v bs hj => by simpa using hB.item j v bs hj
      have hbb : b < wr.heap.size := hB.lay.low'
      obtain ⟨w1, rfl⟩ : ∃ w1, w1 = wr := ⟨_, rfl⟩
      clear hB hbe hbs
      go_wp2
      clear p0 p1 hbb hlt hi
      go_loopw [4] (fun s wr => ∃ i : Nat, i ≤ items.length ∧ s = .int .i64 i ∧ Lay ve wr base b (.slice al items.length cl) (.slice aw items.length cw) items ∧ Rows2 wr base items i ∧ Below base w wr ∧ base ≤ wr.heap.size ∧ OldT w wr ∧ w.heap.size ≤ wr.heap.size) (fun s _ => items.length - (intOf s).toNat)
      case atStart => exact ⟨0, by omega, rfl, HL1.out, HR1.out, HBE.out, HBS.out, HOT.out.1, HOT.out.2⟩
      case round =>
        clear HL1 HR1 HBE HBS HB HOT
        obtain ⟨i, hi, rfl, hL, hR, hbe, hbs, hot, how⟩ := hrel
        have HOT : Hid (OldT w wr ∧ w.heap.size ≤ wr.heap.size) := ⟨hot, how⟩
        clear hot how
        have HL : Hid (Lay ve wr base b (.slice al items.length cl) (.slice aw items.length cw) items) := hL
        have HR : Hid (Rows2 wr base items i) := hR
        have HBE : Hid (Below base w wr) := hbe
        have HBS : Hid (base ≤ wr.heap.size) := hbs
        obtain ⟨p0, p1⟩ := hL.book
        by_cases hlt : i < items.length
        · have hiz : (i : Int) < (items.length : Int) := by omega
          obtain ⟨⟨v, bs⟩, hv⟩ : ∃ x, items[i]? = some x := ⟨_, List.getElem?_eq_getElem hlt⟩
          have HV : Hid (items[i]? = some (v, bs)) := hv
          obtain ⟨gl, cl', e1, q1, _⟩ := hL.at i v bs hv
          cases e1
          have hrow := hR i v bs hv
          rw [if_neg (by omega)] at hrow
          have HROW : Hid (wr.ownsRow base 5 1 v bs.length (bs.map encB)) := hrow
          have hLB : bs.length ≤ 1099511627776 := HBL.out i v bs hv
          obtain ⟨w2, rfl⟩ : ∃ w2, w2 = wr := ⟨_, rfl⟩
          clear hL hR hbe hbs hv hrow
          go_wp2
          clear p0 p1 q1
          go_loopw [5] (fun s wr => ∃ k : Nat, k ≤ bs.length ∧ s = .int .i64 k ∧ wr.ownsRow base 5 1 v bs.length ((List.replicate k (markOf i) ++ bs.drop k).map encB) ∧ Marked v.ownBlock (markOf i) w2 wr) (fun s _ => bs.length - (intOf s).toNat)
          case atStart => exact ⟨0, by omega, rfl, by simpa using HROW.out, Marked.refl _ _ _⟩
          case round =>
            obtain ⟨k, hk, rfl, hown, hmk⟩ := hrel
            have HOWN : Hid (wr.ownsRow base 5 1 v bs.length ((List.replicate k (markOf i) ++ bs.drop k).map encB)) := hown
            have HMK : Hid (Marked v.ownBlock (markOf i) w2 wr) := hmk
            have HL2 : Hid (Lay ve wr base b (.slice (some ⟨gl, 0, none⟩) items.length cl) (.slice aw items.length cw) items) := HL.out.marked hmk HROW.out
            obtain ⟨p0, p1⟩ := HL2.out.book
            obtain ⟨gl', cl', e1, q1, curl, hcurl⟩ := HL2.out.at i v bs HV.out
            cases e1
            by_cases hkl : k < bs.length
            · have hkz : (k : Int) < (bs.length : Int) := by omega
              rcases hown.2 with ⟨_, e⟩ | ⟨q, cv, cur, rfl, hbq, hgq, _⟩
              · omega
              obtain ⟨z, hz⟩ : ∃ z, ((List.replicate k (markOf i) ++ bs.drop k).map encB)[k]? = some z := ⟨_, List.getElem?_eq_getElem (by simp; omega)⟩
              have hcell := hown.cellAt (j := k) (by omega)
              have hfz := hown.frozenAt (j := k)
              rw [hz] at hcell
              have n1 : ¬ b = q := fun e => by rw [← e] at hgq; exact absurd (tagB_ne hgq HL2.out.cells) (by decide)
              have n2 : ¬ gl = q := fun e => by rw [← e] at hgq; exact absurd (tagB_ne hgq hcurl) (by decide)
              have n3 : ¬ q = b := fun e => n1 e.symm
              have n4 : ¬ q = gl := fun e => n2 e.symm
              clear hown hmk hz hgq hcurl
              go_wp2
              go_region_held_law (fun W => W.cell? ⟨b, 0, none⟩ = some (.slice (some ⟨gl, 0, none⟩) items.length cl) ∧ W.cell? ⟨gl, i, none⟩ = some (.slice (some ⟨q, 0, none⟩) bs.length cv)) (go_keep)
                (first
                  | (go_at_call 37; refine (mark_any i _ (by omega)).mono ?_; rintro _ _ ⟨rfl, rfl⟩))
              go_wp2
              obtain ⟨s1, _⟩ := World.ownsRow.stored (h := HOWN.out) k (.int .u8 ((markOf i).toNat : Int))
              rw [fill_next bs (markOf i) k hkl] at s1
              exact ⟨⟨k + 1, by omega, by go_num, s1.drew, (HMK.out.trans Marked.set).drew⟩, by simp [intOf]; omega⟩
            · obtain rfl : k = bs.length := by omega
              have HROWM : Hid (wr.ownsRow base 5 1 v bs.length ((List.replicate bs.length (markOf i)).map encB)) := by show wr.ownsRow _ _ _ _ _ _; simpa using hown
              have HBE2 : Hid (Below base w wr) := HBE.out.trans (hmk.below base HBS.out fun k hk => (own_type HROW.out k hk).2.1)
              have HBS2 : Hid (base ≤ wr.heap.size) := Nat.le_trans HBS.out hmk.size
              obtain ⟨av, cv, rfl, _⟩ := bytes_own HROWM.out
              clear hown hmk hcurl
              go_wp2
              exact ⟨⟨i + 1, by omega, by go_num, HL2.out, HR.out.next HAL.out HV.out HMK.out HROWM.out, HBE2.out, HBS2.out, OldT.marked HOT.out.1 HMK.out HROW.out, Nat.le_trans HOT.out.2 HMK.out.size⟩, by simp [intOf]; omega⟩
        · obtain rfl : i = items.length := by omega
          have HRM : Hid (∀ (j : Nat) v bs, items[j]? = some (v, bs) → wr.ownsRow base 5 1 v bs.length (List.replicate bs.length (encB (markOf j)))) := fun j v bs hj => by
            have := hR j v bs hj
            rw [if_pos (List.getElem?_eq_some_iff.1 hj).1] at this
            simpa using this
          obtain ⟨w3, rfl⟩ : ∃ w3, w3 = wr := ⟨_, rfl⟩
          obtain ⟨i7, hi7, hz70, hz71, hz72⟩ := info27'
          have HS : Hid (L4 ve w w3.heap.size base b (.slice al items.length cl) (.slice aw items.length cw) items 0 (.slice none 0 0) [] w3) :=
            ⟨World.ownsRow_nil _ _ _ _, (fun k hk => by cases hk), HL.out, HRM.out, (fun j v bs hj => by omega), Nat.le_refl _, HBE.out, (fun k hk => (own_type HL.out.rowL k hk).1), (fun j v bs k hj hk => (own_type (HRM.out j v bs hj) k hk).1), HBS.out, HOT.out.1, HOT.out.2⟩
          clear hL hR hbe hbs HR
          go_wp2
          clear p0 p1 hlt hi HL HRM HBE HBS
          go_loopw [7, 6] (fun s t wr => ∃ (i : Nat) (lv : Value) (longs : List Value), i ≤ items.length ∧ s = .int .i64 i ∧ lv = t ∧ L4 ve w w3.heap.size base b (.slice al items.length cl) (.slice aw items.length cw) items i lv longs wr) (fun s _ _ => items.length - (intOf s).toNat)
          case atStart => exact ⟨0, _, [], by omega, rfl, rfl, HS.out⟩
          case round =>
            clear HS
            obtain ⟨i, lv, longs, hi, rfl, rfl, hL⟩ := hrel
            have HL : Hid (L4 ve w w3.heap.size base b (.slice al items.length cl) (.slice aw items.length cw) items i lv longs wr) := hL
            obtain ⟨p0, p1⟩ := hL.lay.book
            by_cases hlt : i < items.length
            · have hiz : (i : Int) < (items.length : Int) := by omega
              obtain ⟨⟨v, bs⟩, hv⟩ : ∃ x, items[i]? = some x := ⟨_, List.getElem?_eq_getElem hlt⟩
              have HV : Hid (items[i]? = some (v, bs)) := hv
              obtain ⟨gl, cl', e1, q1, _⟩ := hL.lay.at i v bs hv
              cases e1
              have HROW : Hid (wr.ownsRow base 5 1 v bs.length (List.replicate bs.length (encB (markOf i)))) := hL.marks i v bs hv
              have hLB : bs.length ≤ 1099511627776 := HBL.out i v bs hv
              have HBS : Hid (base ≤ wr.heap.size) := Nat.le_trans hL.hb hL.size
              obtain ⟨wi, rfl⟩ : ∃ wi, wi = wr := ⟨_, rfl⟩
              clear hL hv
              go_wp2
              clear p0 p1 q1
              go_loopw [9, 8] (fun s t wr => ∃ (k : Nat) (x : Value), k ≤ 20 ∧ s = .int .i64 k ∧ x = t ∧ wr.ownsRow base 5 1 x (bs.length + k) (List.replicate (bs.length + k) (encB (markOf i))) ∧ Marked v.ownBlock (markOf i) wi wr ∧ (x.ownBlock = v.ownBlock ∨ ∃ g, x.ownBlock = some g ∧ wi.heap.size ≤ g)) (fun s _ _ => 20 - (intOf s).toNat)
              case atStart => exact ⟨0, _, by omega, rfl, rfl, HROW.out, Marked.refl _ _ _, .inl rfl⟩
              case round =>
                obtain ⟨k, x, hk, rfl, rfl, hx, hmk, hxb⟩ := hrel
                have HX : Hid (wr.ownsRow base 5 1 x (bs.length + k) (List.replicate (bs.length + k) (encB (markOf i)))) := hx
                have HMK : Hid (Marked v.ownBlock (markOf i) wi wr) := hmk
                have HXB : Hid (x.ownBlock = v.ownBlock ∨ ∃ g, x.ownBlock = some g ∧ wi.heap.size ≤ g) := hxb
                have HBS2 : Hid (base ≤ wr.heap.size) := Nat.le_trans HBS.out hmk.size
                clear hx hmk hxb
                by_cases hk20 : k < 20
                · have hkz : (k : Int) < 20 := by omega
                  go_wp2_with fail
                  refine (mark_any i _ (by omega)).mono ?_
                  rintro _ wx ⟨rfl, hwx⟩
                  rw [hwx]
                  clear hwx
                  go_wp2_with (first
                    | (at_builtin; refine wpList_append_mark rfl _ _ rfl base wr (markOf i) _ rfl rfl x (bs.length + k) rfl HX.out rfl (by omega) HBS2.out ?_
                       intro x2 w4 hx2 hm2 hb2
                       have HX2 : Hid (w4.ownsRow base 5 1 x2 (bs.length + k + 1) (List.replicate (bs.length + k + 1) (encB (markOf i)))) := hx2
                       have HM2 : Hid (Marked x.ownBlock (markOf i) wr w4) := hm2
                       have HB2 : Hid (x2.ownBlock = x.ownBlock ∨ ∃ g, x2.ownBlock = some g ∧ wr.heap.size ≤ g) := hb2
                       clear hx2 hm2 hb2))
                  refine ⟨⟨k + 1, x2, by omega, by go_num, rfl, HX2.out, HMK.out.step HM2.out HXB.out, ?_⟩, by simp [intOf]; omega⟩
                  rcases HB2.out with e | ⟨g, e, hg⟩
                  · rw [e]; exact HXB.out
                  · exact .inr ⟨g, e, Nat.le_trans HMK.out.size hg⟩
                · have hk2z : ¬ ((k : Int) < 20) := by omega
                  have HX20 : Hid (wr.ownsRow base 5 1 x (bs.length + 20) (List.replicate (bs.length + 20) (encB (markOf i)))) := by
                    have e : k = 20 := by omega
                    have := HX.out
                    rw [e] at this
                    exact this
                  have HLg : Hid (Lay ve wr base b (.slice (some ⟨gl, 0, none⟩) items.length cl) (.slice aw items.length cw) items) := HL.out.lay.marked HMK.out HROW.out
                  obtain ⟨p0, p1⟩ := HLg.out.book
                  obtain ⟨gl', cl', e1, q1, _⟩ := HLg.out.at i v bs HV.out
                  cases e1
                  have HROWg : Hid (wr.ownsRow base 5 1 v bs.length (List.replicate bs.length (encB (markOf i)))) := HMK.out.row HROW.out
                  obtain ⟨wg, rfl⟩ : ∃ wg, wg = wr := ⟨_, rfl⟩
                  go_wp2
                  clear p0 p1 q1
                  go_loopw [11, 10] (fun s t wr => ∃ (k : Nat) (y : Value), k ≤ 90 ∧ s = .int .i64 k ∧ y = t ∧ wr.ownsRow base 5 1 y (bs.length + k) (List.replicate (bs.length + k) (encB (markOf i))) ∧ Marked v.ownBlock (markOf i) wg wr ∧ (y.ownBlock = v.ownBlock ∨ ∃ g, y.ownBlock = some g ∧ wg.heap.size ≤ g)) (fun s _ _ => 90 - (intOf s).toNat)
                  case atStart => exact ⟨0, _, by omega, rfl, rfl, HROWg.out, Marked.refl _ _ _, .inl rfl⟩
                  case round =>
                    obtain ⟨k2, y, hk2, rfl, rfl, hy, hmy, hyb⟩ := hrel
                    have HY : Hid (wr.ownsRow base 5 1 y (bs.length + k2) (List.replicate (bs.length + k2) (encB (markOf i)))) := hy
                    have HMY : Hid (Marked v.ownBlock (markOf i) wg wr) := hmy
                    have HYB : Hid (y.ownBlock = v.ownBlock ∨ ∃ g, y.ownBlock = some g ∧ wg.heap.size ≤ g) := hyb
                    have HBS3 : Hid (base ≤ wr.heap.size) := Nat.le_trans HBS2.out hmy.size
                    clear hy hmy hyb
                    by_cases hk90 : k2 < 90
                    · have hkz : (k2 : Int) < 90 := by omega
                      go_wp2_with fail
                      refine (mark_any i _ (by omega)).mono ?_
                      rintro _ wx ⟨rfl, hwx⟩
                      rw [hwx]
                      clear hwx
                      go_wp2_with (first
                        | (at_builtin; refine wpList_append_mark rfl _ _ rfl base wr (markOf i) _ rfl rfl y (bs.length + k2) rfl HY.out rfl (by omega) HBS3.out ?_
                           intro y2 w4 hy2 hm2 hb2
                           have HY2 : Hid (w4.ownsRow base 5 1 y2 (bs.length + k2 + 1) (List.replicate (bs.length + k2 + 1) (encB (markOf i)))) := hy2
                           have HM2 : Hid (Marked y.ownBlock (markOf i) wr w4) := hm2
                           have HB2 : Hid (y2.ownBlock = y.ownBlock ∨ ∃ g, y2.ownBlock = some g ∧ wr.heap.size ≤ g) := hb2
                           clear hy2 hm2 hb2))
                      refine ⟨⟨k2 + 1, y2, by omega, by go_num, rfl, HY2.out, HMY.out.step HM2.out HYB.out, ?_⟩, by simp [intOf]; omega⟩
                      rcases HB2.out with e | ⟨g, e, hg⟩
                      · rw [e]; exact HYB.out
                      · exact .inr ⟨g, e, Nat.le_trans HMY.out.size hg⟩
                    · obtain rfl : k2 = 90 := by omega
                      obtain ⟨ax, cx, rfl⟩ : ∃ ax cx, x = .slice ax (bs.length + 20) cx := by
                        rcases HX20.out.2 with ⟨_, e⟩ | ⟨g, cap, cur, e, _⟩
                        · omega
                        · exact ⟨_, _, e⟩
                      obtain ⟨ay, cy, rfl⟩ : ∃ ay cy, y = .slice ay (bs.length + 90) cy := by
                        rcases HY.out.2 with ⟨_, e⟩ | ⟨g, cap, cur, e, _⟩
                        · omega
                        · exact ⟨_, _, e⟩
                      have HXh : Hid (wr.ownsRow base 5 1 (.slice ax (bs.length + 20) cx) (bs.length + 20) (List.replicate (bs.length + 20) (encB (markOf i)))) := HMY.out.row HX20.out
                      have HLV : Hid (wr.ownsRow base 39 1 lv (2 * i) longs) := by
                        have L := HL.out
                        refine (HMK.out.trans HMY.out).keep L.rowG fun k hk e => ?_
                        have := L.fresh k hk
                        have := L.oldI i v bs k HV.out e
                        omega
                      have HLVA : Hid ((wr.alloc (.cells #[.slice ax (bs.length + 20) cx, .slice ay (bs.length + 90) cy] 39)).ownsRow base 39 1 lv (2 * i) longs) := own_same HLV.out fun k _ hk => Below.heap_alloc _ _ _ hk
                      have HNW : Hid (∀ (j : Nat) (u : Value), [Value.slice ax (bs.length + 20) cx, Value.slice ay (bs.length + 90) cy][j]? = some u → (wr.alloc (.cells #[.slice ax (bs.length + 20) cx, .slice ay (bs.length + 90) cy] 39)).cell? ((⟨wr.heap.size, 0, none⟩ : Addr).add j) = some u) := fun j u hj => by
                        rw [add_at, row_cell (heap_alloc_last wr _), Nat.zero_add]
                        simpa using hj
                      have HONE : Hid (∀ u ∈ [Value.slice ax (bs.length + 20) cx, Value.slice ay (bs.length + 90) cy], u.oneCell' = true) := fun u hu => by
                        simp at hu
                        rcases hu with rfl | rfl <;> rfl
                      go_wp2_with (first
                        | (at_builtin; refine wpList_append_lies _ rfl _ _ 28 rfl base 39 i7 (.slice none 0 0) 1 24 Try.underlying28 hi7 hz70 hz71 hz72 rfl (by decide) lv (2 * i) longs rfl HLVA.out ⟨wr.heap.size, 0, none⟩ 2 2 [.slice ax (bs.length + 20) cx, .slice ay (bs.length + 90) cy] rfl rfl HNW.out HONE.out (by decide) (by unfold maxLen; omega) (by omega) (by have := HBS3.out; simp; omega) _ rfl ?_
                           intro gL cL wL hoL hgL hatL hltL
                           have HN : Hid (L4 ve w w3.heap.size base b (.slice (some ⟨gl, 0, none⟩) items.length cl) (.slice aw items.length cw) items (i + 1) (.slice (some ⟨gL, 0, none⟩) (2 * i + 2) cL) (longs ++ [.slice ax (bs.length + 20) cx, .slice ay (bs.length + 90) cy]) wL) := HL.out.next HAL.out HV.out HMK.out HX20.out HXB.out HMY.out HY.out HYB.out hoL hgL hatL
                           clear hoL hgL hatL hltL))
                      exact ⟨⟨i + 1, _, _, by omega, by go_num, rfl, HN.out⟩, by simp [intOf]; omega⟩
            · obtain rfl : i = items.length := by omega
              obtain ⟨w5, rfl⟩ : ∃ w5, w5 = wr := ⟨_, rfl⟩
              clear hL
              go_wp2
              clear p0 p1 hlt hi
              go_loopw [12] (fun s wr => ∃ i : Nat, i ≤ items.length ∧ s = .int .i64 i ∧ L4 ve w w3.heap.size base b (.slice al items.length cl) (.slice aw items.length cw) items items.length lv longs wr) (fun s _ => items.length - (intOf s).toNat)
              case atStart => exact ⟨0, by omega, rfl, HL.out⟩
              case round =>
                clear HL
                obtain ⟨i, hi, rfl, hL⟩ := hrel
                have HL : Hid (L4 ve w w3.heap.size base b (.slice al items.length cl) (.slice aw items.length cw) items items.length lv longs wr) := hL
                obtain ⟨p0, p1⟩ := hL.lay.book
                by_cases hlt : i < items.length
                · have hiz : (i : Int) < (items.length : Int) := by omega
                  obtain ⟨⟨v, bs⟩, hv⟩ : ∃ x, items[i]? = some x := ⟨_, List.getElem?_eq_getElem hlt⟩
                  obtain ⟨gl, cl', e1, q1, _⟩ := hL.lay.at i v bs hv
                  cases e1
                  have hLB : bs.length ≤ 1099511627776 := HBL.out i v bs hv
                  obtain ⟨g, h, e1, e2, r1, r2, _, _⟩ := hL.long i v bs hlt hv
                  obtain ⟨av, cv, rfl, y0⟩ := full_slice (hL.marks i v bs hv)
                  obtain ⟨ag, cg, rfl, y1⟩ := full_slice r1
                  obtain ⟨ah, ch, rfl, y2⟩ := full_slice r2
                  obtain ⟨gv, cvl, rfl, q2⟩ := row27_at hL.rowG _ _ e1
                  obtain ⟨gv', cvl', e3, q3⟩ := row27_at hL.rowG _ _ e2
                  cases e3
                  have Y0 : Hid (∀ W, Below wr.heap.size wr W → BytesAt W.heap.size W av (List.replicate bs.length (markOf i))) := fun W hW => y0.here hW
                  have Y1 : Hid (∀ W, Below wr.heap.size wr W → BytesAt W.heap.size W ag (List.replicate (bs.length + 20) (markOf i))) := fun W hW => y1.here hW
                  have Y2 : Hid (∀ W, Below wr.heap.size wr W → BytesAt W.heap.size W ah (List.replicate (bs.length + 90) (markOf i))) := fun W hW => y2.here hW
                  have j1 : 2 * (i : Int) < 2 * (items.length : Int) := by omega
                  have j2 : 2 * (i : Int) + 1 < 2 * (items.length : Int) := by omega
                  clear hL hv e1 e2 r1 r2 y0 y1 y2
                  go_wp2
                  go_quiet (first
                    | (go_at_call 37; exact Calls.quiet_of_same (mark_any i _ (by omega)))
                    | (go_at_call 38; exact Calls.quiet_of_same (full_any _ _ _ _ (markOf i) (Y0.out _ (below_draws (Below.refl _ _) _)) (by omega))))
                  go_wp2
                  obtain ⟨wa, hwa⟩ : ∃ wa, wa = wr.drewN nq := ⟨_, rfl⟩
                  have ba : Below wr.heap.size wr wa := by rw [hwa]; exact below_draws (Below.refl _ _) nq
                  have BA : Hid (Below wr.heap.size wr wa) := ba
                  have q2a : wa.cell? ⟨gv, 2 * i, none⟩ = some (.slice ag (bs.length + 20) cg) := by rw [hwa]; exact q2
                  have q3a : wa.cell? ⟨gv, 2 * i + 1, none⟩ = some (.slice ah (bs.length + 90) ch) := by rw [hwa]; exact q3
                  rw [← hwa]
                  clear hwa ba p0 p1 q1 q2 q3
                  go_quiet (first
                    | (go_at_call 37; exact Calls.quiet_of_same (mark_any i _ (by omega)))
                    | (go_at_call 38; exact Calls.quiet_of_same (full_any _ _ _ _ (markOf i) (Y1.out _ (BA.out.trans (below_draws (Below.refl _ _) _))) (by omega))))
                  go_wp2
                  obtain ⟨wc, hwc⟩ : ∃ wc, wc = wa.drewN nq := ⟨_, rfl⟩
                  have bc : Below wr.heap.size wr wc := by rw [hwc]; exact below_draws BA.out nq
                  have BC : Hid (Below wr.heap.size wr wc) := bc
                  have q3c : wc.cell? ⟨gv, 2 * i + 1, none⟩ = some (.slice ah (bs.length + 90) ch) := by rw [hwc]; exact q3a
                  rw [← hwc]
                  clear hwc bc q2a q3a
                  go_quiet (first
                    | (go_at_call 37; exact Calls.quiet_of_same (mark_any i _ (by omega)))
                    | (go_at_call 38; exact Calls.quiet_of_same (full_any _ _ _ _ (markOf i) (Y2.out _ (BC.out.trans (below_draws (Below.refl _ _) _))) (by omega))))
                  go_wp2
                  exact ⟨⟨i + 1, by omega, by go_num, HL.out.here (below_draws BC.out nq)⟩, by simp [intOf]; omega⟩
                · have HBE : Hid (Below base w wr) := hL.below
                  have HOUT : Hid (Calls Try.prog 39 #[.pointer (some ⟨b, 0, none⟩)] wr fun e w' => e = .returned (.bool true) ∧ Below base wr w') := HO.out wr hL.below hL.oldT (by rw [row_cell hL.lay.cells]; rfl)
                  clear hL
                  go_wp2_with fail
                  refine Calls.mono HOUT.out ?_
                  rintro e w9 ⟨rfl, hb⟩
                  have HB9 : Hid (Below base w w9) := HBE.out.trans hb
                  clear hb
                  go_wp2
                  go_ret
                  exact ⟨rfl, HB9.out⟩
end Go.Proofs.Ytgifnaahahfhbaa
