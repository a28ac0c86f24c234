/- The law's lists that came out: as they lie, full of marks, made longer. -/
import Derived.Test.YteajgodpdfcioaaMarkI
namespace Go.Proofs.Yteajgodpdfcioaa
open Go.RowKit

theorem tag_eq {w : World} {k : Nat} {c c' : Array Value} {e e' : TypeId} {r r' : Nat × Nat} (h : w.heap[k]? = some (.cells c e r)) (h' : w.heap[k]? = some (.cells c' e' r')) : e = e' := by
  rw [h] at h'
  cases h'
  rfl
/-- The mark of the list i. -/
def markOf (i : Nat) : Int := -7 - (i : Int)
/-- A Book's list of slices, as it lies. -/
structure Lay (w : World) (base b : Nat) (l0 l1 l2 vl vw : Value) (items : List (Value × List Int)) : Prop where
  cells : w.heap[b]? = some (.cells #[l0, l1, l2, vl, vw] 30 (0, 0))
  low : base ≤ b
  rowL : w.ownsRow base 42 1 vl items.length (items.map (·.1))
theorem Lay.moved {w w' : World} {base b : Nat} {l0 l1 l2 vl vw : Value} {items : List (Value × List Int)} (h : Lay w base b l0 l1 l2 vl vw items) (hb : w'.heap[b]? = w.heap[b]?) (hl : ∀ k, vl.ownBlock = some k → w'.heap[k]? = w.heap[k]?) : Lay w' base b l0 l1 l2 vl vw items :=
  ⟨by rw [hb]; exact h.cells, h.low, own_same h.rowL fun k hk _ => hl k hk⟩
theorem Lay.here {w w' : World} {base b : Nat} {l0 l1 l2 vl vw : Value} {items : List (Value × List Int)} (h : Lay w base b l0 l1 l2 vl vw items) (hb : Below w.heap.size w w') : Lay w' base b l0 l1 l2 vl vw items :=
  h.moved (hb.block _ (Array.getElem?_eq_some_iff.1 h.cells).1) (fun k hk => hb.block _ (own_type h.rowL k hk).1)
/-- Bytes change, the list stays. -/
theorem Lay.marked {w w' : World} {base b : Nat} {l0 l1 l2 vl vw : Value} {items : List (Value × List Int)} (h : Lay w base b l0 l1 l2 vl vw items) {v : Value} {m : Int} (hm : Marked v.ownBlock m w w') {n : Nat} {xs : List Value} (ho : w.ownsRow base 3 1 v n xs) : Lay w' base b l0 l1 l2 vl vw items := by
  refine h.moved (hm.other b (Array.getElem?_eq_some_iff.1 h.cells).1 fun e => ?_) (fun k hk => hm.other k (own_type h.rowL k hk).1 fun e => ?_)
  · obtain ⟨_, _, c, hc⟩ := own_type ho b e
    exact absurd (tag_eq hc h.cells) (by decide)
  · obtain ⟨_, _, c, hc⟩ := own_type ho k e
    obtain ⟨_, _, c', hc'⟩ := own_type h.rowL k hk
    exact absurd (tag_eq hc hc') (by decide)
theorem Lay.at {w : World} {base b : Nat} {l0 l1 l2 vl vw : Value} {items : List (Value × List Int)} (h : Lay w base b l0 l1 l2 vl vw items) (i : Nat) (v : Value) (bs : List Int) (hi : items[i]? = some (v, bs)) :
    ∃ gl cl, vl = .slice (some ⟨gl, 0, none⟩) items.length cl ∧ w.cell? ⟨gl, i, none⟩ = some v ∧ (∃ cur, w.heap[gl]? = some (.cells cur 42 (0, 0))) := by
  have hil := (List.getElem?_eq_some_iff.1 hi).1
  rcases h.rowL.2 with ⟨_, e⟩ | ⟨g, cap, cur, rfl, _, hg, hc, _, hs, ht⟩
  · omega
  · refine ⟨g, cap, rfl, ?_, cur, hg⟩
    rw [row_cell hg]
    have := congrArg (fun l => l[i]?) ht
    simp only [List.getElem?_take, List.getElem?_map, hi] at this
    rw [if_pos (by omega), Array.getElem?_toList] at this
    exact this
theorem Lay.book {w : World} {base b : Nat} {l0 l1 l2 vl vw : Value} {items : List (Value × List Int)} (h : Lay w base b l0 l1 l2 vl vw items) : w.cell? ⟨b, 3, none⟩ = some vl ∧ w.cell? ⟨b, 4, none⟩ = some vw := ⟨by rw [row_cell h.cells]; rfl, by rw [row_cell h.cells]; rfl⟩
theorem Lay.len {w : World} {base b : Nat} {l0 l1 l2 vl vw : Value} {items : List (Value × List Int)} (h : Lay w base b l0 l1 l2 vl vw items) : ∃ al cl, vl = .slice al items.length cl := by
  rcases h.rowL.2 with ⟨e, e'⟩ | ⟨g, cap, cur, rfl, _⟩
  · exact ⟨none, 0, by rw [e, e']⟩
  · exact ⟨_, _, rfl⟩
theorem Lay.low' {w : World} {base b : Nat} {l0 l1 l2 vl vw : Value} {items : List (Value × List Int)} (h : Lay w base b l0 l1 l2 vl vw items) : b < w.heap.size := (Array.getElem?_eq_some_iff.1 h.cells).1

/-- The rows, those below i filled with their marks. -/
def Rows2 (w : World) (base : Nat) (items : List (Value × List Int)) (i : Nat) : Prop :=
  ∀ (j : Nat) v bs, items[j]? = some (v, bs) → w.ownsRow base 3 1 v bs.length ((if j < i then List.replicate bs.length (markOf j) else bs).map encI)
def Alone (items : List (Value × List Int)) : Prop := ∀ (i j : Nat) v bs v' bs' k, items[i]? = some (v, bs) → items[j]? = some (v', bs') → v.ownBlock = some k → v'.ownBlock = some k → i = j

theorem fill_next (bs : List Int) (m : Int) (k : Nat) (hk : k < bs.length) : ((List.replicate k m ++ bs.drop k).map encI).set k (.int .i64 m) = (List.replicate (k + 1) m ++ bs.drop (k + 1)).map encI := by
  have e : (.int .i64 m) = encI m := rfl
  have e2 : (List.replicate k m ++ bs.drop k).set k m = List.replicate (k + 1) m ++ bs.drop (k + 1) := by
    rw [List.set_append_right _ _ (by simp), List.drop_eq_getElem_cons hk, List.length_replicate, Nat.sub_self, List.set_cons_zero, List.replicate_succ', List.append_assoc]
    rfl
  rw [e, ← List.map_set, e2]
theorem Rows2.next {w w' : World} {base : Nat} {items : List (Value × List Int)} {i : Nat} (h : Rows2 w base items i) (ha : Alone items) {v : Value} {bs : List Int} (hi : items[i]? = some (v, bs)) (hm : Marked v.ownBlock (markOf i) w w')
    (ho : w'.ownsRow base 3 1 v bs.length ((List.replicate bs.length (markOf i)).map encI)) : Rows2 w' base items (i + 1) := fun j v' bs' hj => by
  by_cases e : j = i
  · subst e
    rw [hi] at hj
    cases hj
    rw [if_pos (by omega)]
    exact ho
  · have h1 := h j v' bs' hj
    have e2 : (if j < i + 1 then List.replicate bs'.length (markOf j) else bs') = (if j < i then List.replicate bs'.length (markOf j) else bs') := by
      by_cases hji : j < i
      · rw [if_pos hji, if_pos (by omega)]
      · rw [if_neg hji, if_neg (by omega)]
    rw [e2]
    exact hm.keep h1 fun k hk hk' => e (ha j i v' bs' v bs k hj hi hk hk')

/-- Made longer, i of them. -/
structure L4 (w : World) (S base b : Nat) (l0 l1 l2 vl vw : Value) (items : List (Value × List Int)) (i : Nat) (lv : Value) (longs : List Value) (wr : World) : Prop where
  rowG : wr.ownsRow base 42 1 lv (3 * i) longs
  fresh : ∀ k, lv.ownBlock = some k → S ≤ k
  lay : Lay wr base b l0 l1 l2 vl vw items
  marks : ∀ (j : Nat) v bs, items[j]? = some (v, bs) → wr.ownsRow base 3 1 v bs.length (List.replicate bs.length (encI (markOf j)))
  long : ∀ (j : Nat) v bs, j < i → items[j]? = some (v, bs) → ∃ g h, longs[3 * j]? = some v ∧ longs[3 * j + 1]? = some g ∧ longs[3 * j + 2]? = some h ∧
    wr.ownsRow base 3 1 g (bs.length + 20) (List.replicate (bs.length + 20) (encI (markOf j))) ∧ wr.ownsRow base 3 1 h (bs.length + 90) (List.replicate (bs.length + 90) (encI (markOf j))) ∧
    (g.ownBlock = v.ownBlock ∨ ∃ k, g.ownBlock = some k ∧ S ≤ k) ∧ (h.ownBlock = v.ownBlock ∨ ∃ k, h.ownBlock = some k ∧ S ≤ k)
  size : S ≤ wr.heap.size
  below : Below base w wr
  old : ∀ k, vl.ownBlock = some k → k < S
  oldI : ∀ (j : Nat) v bs k, items[j]? = some (v, bs) → v.ownBlock = some k → k < S
  hb : base ≤ S
theorem L4.next {w : World} {S base b : Nat} {l0 l1 l2 vl vw : Value} {items : List (Value × List Int)} {i : Nat} {lv : Value} {longs : List Value} {wi wg wh wL : World} (L : L4 w S base b l0 l1 l2 vl vw items i lv longs wi) (ha : Alone items) {v : Value} {bs : List Int} (hi : items[i]? = some (v, bs))
    (m1 : Marked v.ownBlock (markOf i) wi wg) {g h : Value} (hg : wg.ownsRow base 3 1 g (bs.length + 20) (List.replicate (bs.length + 20) (encI (markOf i)))) (bg : g.ownBlock = v.ownBlock ∨ ∃ k, g.ownBlock = some k ∧ wi.heap.size ≤ k)
    (m2 : Marked v.ownBlock (markOf i) wg wh) (hh : wh.ownsRow base 3 1 h (bs.length + 90) (List.replicate (bs.length + 90) (encI (markOf i)))) (bh : h.ownBlock = v.ownBlock ∨ ∃ k, h.ownBlock = some k ∧ wg.heap.size ≤ k)
    {gL cL : Nat} (ho : wL.ownsRow base 42 1 (.slice (some ⟨gL, 0, none⟩) (3 * i + 3) cL) (3 * i + 3) (longs ++ [v, g, h])) (hgr : (wh.alloc (.cells #[v, g, h] 42)).grownBy wL lv.ownBlock) (hat : lv.ownBlock = some gL ∨ gL = (wh.alloc (.cells #[v, g, h] 42)).heap.size) :
    L4 w S base b l0 l1 l2 vl vw items (i + 1) (.slice (some ⟨gL, 0, none⟩) (3 * i + 3) cL) (longs ++ [v, g, h]) wL := by
  have M := m1.trans m2
  have hvS : ∀ k, v.ownBlock = some k → k < S := fun k hk => L.oldI i v bs k hi hk
  have hrow := L.marks i v bs hi
  have hvb : ∀ k, v.ownBlock = some k → base ≤ k := fun k hk => (own_type hrow k hk).2.1
  have hz := L.size
  have hz1 := m1.size
  have hz2 := m2.size
  have hz3 := hgr.size
  simp only [World.alloc, Array.size_push] at hz3
  have lvh : wh.ownsRow base 42 1 lv (3 * i) longs := M.keep L.rowG fun k hk e => by have := L.fresh k hk; have := hvS k e; omega
  have layh : Lay wh base b l0 l1 l2 vl vw items := L.lay.marked M hrow
  have up : ∀ k : Nat, k < wh.heap.size → lv.ownBlock ≠ some k → wL.heap[k]? = wh.heap[k]? := fun k hk hkl => by
    rw [hgr.block k (by simp; omega) (fun e => hkl e.symm), Below.heap_alloc _ _ _ hk]
  have upB : ∀ {n : Nat} {u : Value} {xs : List Value}, wh.ownsRow base 3 1 u n xs → wL.ownsRow base 3 1 u n xs := fun hu => own_same hu fun k hk hl => up k hl fun e => by
    obtain ⟨_, _, c, hc⟩ := own_type hu k hk
    obtain ⟨_, _, c', hc'⟩ := own_type lvh k e
    exact absurd (tag_eq hc hc') (by decide)
  have hlen : longs.length = 3 * i := by have := L.rowG.1; simpa using this
  refine ⟨?_, ?_, ?_, ?_, ?_, by omega, ?_, L.old, L.oldI, L.hb⟩
  · exact ho
  · intro k hk
    cases hk
    rcases hat with e | e
    · exact L.fresh gL e
    · rw [e]; simp; omega
  · refine layh.moved (up b layh.low' fun e => ?_) (fun k hk => up k (own_type layh.rowL k hk).1 fun e => ?_)
    · obtain ⟨_, _, c', hc'⟩ := own_type lvh b e
      exact absurd (tag_eq layh.cells hc') (by decide)
    · have := L.fresh k e
      have := L.old k hk
      omega
  · intro j v' bs' hj
    by_cases e : j = i
    · subst e
      rw [hi] at hj
      cases hj
      exact upB (M.row hrow)
    · exact upB (M.keep (L.marks j v' bs' hj) fun k hk hk' => e (ha j i v' bs' v bs k hj hi hk hk'))
  · intro j v' bs' hji hj
    by_cases e : j = i
    · subst e
      rw [hi] at hj
      cases hj
      refine ⟨g, h, by rw [List.getElem?_append_right (by omega), hlen, Nat.sub_self]; rfl, by rw [List.getElem?_append_right (by omega), hlen, show 3 * j + 1 - 3 * j = 1 by omega]; rfl, by rw [List.getElem?_append_right (by omega), hlen, show 3 * j + 2 - 3 * j = 2 by omega]; rfl, upB (m2.row hg), upB hh, ?_, ?_⟩
      · rcases bg with e | ⟨k, e, hk⟩
        · exact .inl e
        · exact .inr ⟨k, e, by omega⟩
      · rcases bh with e | ⟨k, e, hk⟩
        · exact .inl e
        · exact .inr ⟨k, e, by omega⟩
    · obtain ⟨g', h', e0, e1, e2, r1, r2, b1, b2⟩ := L.long j v' bs' (by omega) hj
      have away : ∀ u : Value, (u.ownBlock = v'.ownBlock ∨ ∃ k, u.ownBlock = some k ∧ S ≤ k) → ∀ k, u.ownBlock = some k → v.ownBlock ≠ some k := fun u hu k hk hk' => by
        rcases hu with h1 | ⟨k2, h1, h2⟩
        · exact e (ha j i v' bs' v bs k hj hi (by rw [← h1]; exact hk) hk')
        · rw [h1] at hk
          obtain rfl : k2 = k := Option.some.inj hk
          have := hvS k2 hk'
          omega
      refine ⟨g', h', by rw [List.getElem?_append_left (by omega)]; exact e0, by rw [List.getElem?_append_left (by omega)]; exact e1, by rw [List.getElem?_append_left (by omega)]; exact e2, upB (M.keep r1 (away g' b1)), upB (M.keep r2 (away h' b2)), b1, b2⟩
  · have hbS := L.hb
    refine L.below.trans ⟨?_, ?_, ?_, by omega, fun k hk => ?_⟩
    · exact hgr.os.trans M.os
    · exact hgr.tape.trans M.tape
    · exact hgr.output.trans M.output
    · rw [up k (by omega) (fun e => by have := (own_type lvh k e).2.1; omega)]
      exact M.other k (by omega) (fun e => by have := hvb k e; omega)
theorem own_one {w : World} {base e n : Nat} {v : Value} {xs : List Value} (h : w.ownsRow base e 1 v n xs) : v.oneCell' = true := by
  rcases h.2 with ⟨rfl, _⟩ | ⟨g, cap, cur, rfl, _⟩ <;> rfl

theorem L4.here {w : World} {S base b : Nat} {l0 l1 l2 vl vw : Value} {items : List (Value × List Int)} {i : Nat} {lv : Value} {longs : List Value} {wr wr' : World} (L : L4 w S base b l0 l1 l2 vl vw items i lv longs wr) (hb : Below wr.heap.size wr wr') : L4 w S base b l0 l1 l2 vl vw items i lv longs wr' :=
  ⟨own_same L.rowG fun k _ hk => hb.block k hk, L.fresh, L.lay.here hb, fun j v bs hj => own_same (L.marks j v bs hj) fun k _ hk => hb.block k hk, fun j v bs hji hj => by
    obtain ⟨g, h, e0, e1, e2, r1, r2, b1, b2⟩ := L.long j v bs hji hj
    exact ⟨g, h, e0, e1, e2, own_same r1 fun k _ hk => hb.block k hk, own_same r2 fun k _ hk => hb.block k hk, b1, b2⟩, Nat.le_trans L.size hb.size, L.below.trans (hb.mono (Nat.le_trans L.hb L.size)), L.old, L.oldI, L.hb⟩
theorem rowB_at {w : World} {base n : Nat} {v : Value} {xs : List Value} (h : w.ownsRow base 42 1 v n xs) (j : Nat) (u : Value) (hj : xs[j]? = some u) : ∃ g c, v = .slice (some ⟨g, 0, none⟩) n c ∧ w.cell? ⟨g, j, none⟩ = some u := by
  have hjl := (List.getElem?_eq_some_iff.1 hj).1
  have hl : xs.length = n := by have := h.1; simpa using this
  rcases h.2 with ⟨_, e⟩ | ⟨g, cap, cur, rfl, _, hg, hc, _, hs, ht⟩
  · omega
  · refine ⟨g, cap, rfl, ?_⟩
    rw [row_cell hg]
    have := congrArg (fun l => l[j]?) ht
    simp only [List.getElem?_take, hj] at this
    rw [if_pos (by omega), Array.getElem?_toList] at this
    exact this

theorem row_mark {w : World} {base n k : Nat} {v : Value} {m : Int} (h : w.ownsRow base 3 1 v n (List.replicate n (encI m))) (hk : k < n) : ∃ g c, v = .slice (some ⟨g, 0, none⟩) n c ∧ w.cell? ⟨g, k, none⟩ = some (.int .i64 m) := by
  rcases own_row h with ⟨_, e⟩ | ⟨g, c, e, _, _, hc⟩
  · omega
  · exact ⟨g, c, e, hc k _ (by rw [List.getElem?_replicate, if_pos hk]; rfl)⟩
theorem L4.any {w wr : World} {S base b : Nat} {l0 l1 l2 vl vw : Value} {items : List (Value × List Int)} {lv : Value} {longs : List Value} (L : L4 w S base b l0 l1 l2 vl vw items items.length lv longs wr) {i : Nat} (hi : i < 3 * items.length) (hbl : ∀ (i : Nat) v bs, items[i]? = some (v, bs) → bs.length ≤ 65536) :
    ∃ u n, longs[i]? = some u ∧ wr.ownsRow base 3 1 u n (List.replicate n (encI (-7 - ((i / 3 : Nat) : Int)))) ∧ n ≤ 70000 := by
  obtain ⟨⟨v, bs⟩, hv⟩ : ∃ x, items[i / 3]? = some x := ⟨_, List.getElem?_eq_getElem (by omega)⟩
  obtain ⟨g, h, e0, e1, e2, r1, r2, _, _⟩ := L.long (i / 3) v bs (by omega) hv
  have hb := hbl (i / 3) v bs hv
  rcases (show i = 3 * (i / 3) ∨ i = 3 * (i / 3) + 1 ∨ i = 3 * (i / 3) + 2 by omega) with e | e | e
  · exact ⟨v, bs.length, by rw [e]; exact e0, L.marks (i / 3) v bs hv, by omega⟩
  · exact ⟨g, bs.length + 20, by rw [e]; exact e1, r1, by omega⟩
  · exact ⟨h, bs.length + 90, by rw [e]; exact e2, r2, by omega⟩
theorem repl_enc (n : Nat) (m : Int) : List.replicate n (encI m) = (List.replicate n m).map encI := by simp
theorem one_src (W : World) (m : Int) (j : Nat) (hj : j < 1) : (W.alloc (.cells #[.int .i64 m] 3)).cell? ((⟨W.heap.size, 0, none⟩ : Addr).add j) = some (encI m) := by
  obtain rfl : j = 0 := by omega
  rw [add_at, Nat.zero_add, row_cell (heap_alloc_last W _)]
  rfl
end Go.Proofs.Yteajgodpdfcioaa
