/- The Lot's range1; ranges that are lent, kept, turned. -/
import Derived.Test.YtphohkchffcjeaaLotKeys
import Derived.Test.YtphohkchffcjeaaRefMinus
import Derived.Test.YtphohkchffcjeaaInside
namespace Go.Proofs.Ytphohkchffcjeaa
open Go.RowKit

/-- What was there stays: all below base, and all but the Lot and its two rows' types. -/
structure Still (base : Nat) (w w' : World) : Prop where
  below : Below base w w'
  rest : ∀ (k : Nat) (c : Array Value) (e : TypeId) (r : Nat × Nat), w.heap[k]? = some (.cells c e r) → e ≠ 31 → e ≠ 23 → e ≠ 9 → w'.heap[k]? = some (.cells c e r)
theorem Still.trans {base : Nat} {a b c : World} (h : Still base a b) (k : Still base b c) : Still base a c := ⟨h.below.trans k.below, fun i x e r hx h1 h2 h3 => k.rest i x e r (h.rest i x e r hx h1 h2 h3) h1 h2 h3⟩
theorem Still.of {base : Nat} {w w' : World} (h : Below w.heap.size w w') (hb : base ≤ w.heap.size) : Still base w w' :=
  ⟨h.mono hb, fun k c e r hk _ _ _ => by rw [h.block k (Array.getElem?_eq_some_iff.1 hk).1]; exact hk⟩
theorem Still.goes {base : Nat} {w w' : World} (h : Still base w w') : Goes base w w' := ⟨h.below, fun k c r hk => h.rest k c _ r hk (by decide) (by decide) (by decide)⟩
theorem KeptBut.still {w w' : World} {base b : Nat} {l0 l1 vl vw : Value} {items : List (Value × Key)} (hk : KeptBut b vl vw w w') (h : Book w base b l0 l1 vl vw items) (hb : Below base w w') : Still base w w' :=
  ⟨hb, fun _ _ _ _ hc h1 h2 h3 => hk.stays h hc h1 h2 h3⟩
theorem Box.still {base : Nat} {w w' : World} {b : Nat} {x y z : Value} (h : Box w b x y z) (hs : Still base w w') : Box w' b x y z := ⟨hs.rest _ _ _ _ h.row (by decide) (by decide) (by decide)⟩

/-- A range that stays. -/
structure RangeS (base : Nat) (w : World) (v1 v2 : Value) (r : Rg) : Prop where
  lo : KeyS base w v1 r.lo
  hi : KeyS base w v2 r.hi
theorem RangeS.goes {base : Nat} {w w' : World} {v1 v2 : Value} {r : Rg} (h : RangeS base w v1 v2 r) (hg : Goes base w w') : RangeS base w' v1 v2 r := ⟨h.lo.goes hg, h.hi.goes hg⟩
theorem RangeS.at {base : Nat} {w : World} {v1 v2 : Value} {r : Rg} (h : RangeS base w v1 v2 r) : RangeAt w (.agg #[v1, v2, .bool r.all]) r := ⟨v1, v2, rfl, h.lo.is, h.hi.is⟩
theorem RangeS.slices {base : Nat} {w : World} {v1 v2 : Value} {r : Rg} (h : RangeS base w v1 v2 r) : ∃ a1 c1 a2 c2, v1 = .slice a1 r.lo.length c1 ∧ v2 = .slice a2 r.hi.length c2 := by
  obtain ⟨a1, c1, e1, _⟩ := h.lo.is.is
  obtain ⟨a2, c2, e2, _⟩ := h.hi.is.is
  exact ⟨a1, c1, a2, c2, e1, e2⟩

set_option maxHeartbeats 1600000 in
set_option maxRecDepth 100000 in
theorem range1_any {w : World} {base b : Nat} {l0 l1 vl vw v1 v2 u1 u2 : Value} {items : List (Value × Key)} {r : Rg} (H : Book w base b l0 l1 vl vw items) (h1 : NewKey base w v1 r.lo) (h2 : NewKey base w v2 r.hi) (h12 : ∀ k, v1.ownBlock = some k → v2.ownBlock ≠ some k) (k1 : NewKey base w u1 r.lo) (k2 : NewKey base w u2 r.hi)
    (hnew : ∀ (i : Nat) v' bs' k, items[i]? = some (v', bs') → (v1.ownBlock = some k ∨ v2.ownBlock = some k) → v'.ownBlock ≠ some k) (hil : items.length ≤ 999990) (hbase : base ≤ w.heap.size) :
    Calls Try.prog 39 #[.pointer (some ⟨b, 0, none⟩), .agg #[v1, v2, .bool r.all], .agg #[u1, u2, .bool r.all]] w fun e w' => e = .returned (.bool true) ∧ Still base w w' ∧ ∃ vl' vw', Book w' base b l0 l1 vl' vw' (items ++ [(v1, r.lo), (v2, r.hi)]) := by
  obtain ⟨a1, c1, rfl⟩ := h1.slice
  obtain ⟨a2, c2, rfl⟩ := h2.slice
  obtain ⟨a3, c3, rfl⟩ := k1.slice
  obtain ⟨a4, c4, rfl⟩ := k2.slice
  obtain ⟨W, hW⟩ : ∃ W, W = (w.alloc (.cells #[.slice a1 r.lo.length c1, .slice a2 r.hi.length c2, .bool r.all] 36)).alloc (.cells #[.slice a3 r.lo.length c3, .slice a4 r.hi.length c4, .bool r.all] 36) := ⟨_, rfl⟩
  have hbW : Below w.heap.size w W := by rw [hW]; exact (below_new w _).alloc (by simp) _
  have hx0 : Box W w.heap.size (.slice a1 r.lo.length c1) (.slice a2 r.hi.length c2) (.bool r.all) := by rw [hW]; exact (Box.new _ _ _ _).alloc _
  have hx1 : Box W (w.heap.size + 1) (.slice a3 r.lo.length c3) (.slice a4 r.hi.length c4) (.bool r.all) := by
    rw [hW]
    have := Box.new (w.alloc (.cells #[.slice a1 r.lo.length c1, .slice a2 r.hi.length c2, .bool r.all] 36)) (.slice a3 r.lo.length c3) (.slice a4 r.hi.length c4) (.bool r.all)
    simpa using this
  have S0 : Hid (Still base w W) := Still.of hbW hbase
  have hsW : base ≤ W.heap.size := Nat.le_trans hbase hbW.size
  have BK : Hid (Book W base b l0 l1 vl vw items) := H.here hbW
  have N1 : Hid (NewKey base W (.slice a1 r.lo.length c1) r.lo) := h1.here hbW
  have N2 : Hid (NewKey base W (.slice a2 r.hi.length c2) r.hi) := h2.here hbW
  have M1 : Hid (NewKey base W (.slice a3 r.lo.length c3) r.lo) := k1.here hbW
  have M2 : Hid (NewKey base W (.slice a4 r.hi.length c4) r.hi) := k2.here hbW
  have HX0 : Hid _ := hx0
  have HX1 : Hid _ := hx1
  have HNEW : Hid _ := hnew
  have H12 : Hid _ := h12
  have HO : Hid (∀ W1, Below W.heap.size W W1 → Calls Try.prog 32 #[.pointer (some ⟨b, 2, none⟩), .slice a1 r.lo.length c1, .slice a3 r.lo.length c3] W1 fun e w' => e = .returned (.tuple #[]) ∧ (∃ vl' vw', Book w' base b l0 l1 vl' vw' (items ++ [(.slice a1 r.lo.length c1, r.lo)])) ∧ KeptBut b vl vw W1 w' ∧ Below base W1 w') := fun W1 hb =>
    hold_any (BK.out.here hb) (N1.out.here hb).own (M1.out.here hb) (fun i v' bs' k hi hk => HNEW.out i v' bs' k hi (.inl hk)) (by omega) (Nat.le_trans hsW hb.size)
  obtain ⟨p0, p1, p2⟩ := hx0.cells
  obtain ⟨q0, q1, q2⟩ := hx1.cells
  clear H h1 h2 k1 k2 hbW hx0 hx1 hnew h12
  go_enter Try.func39, Try.ntmps39
  go_upto_region 1 with fail
  rw [← hW]
  clear hW
  have HT : Hid _ := HO.out W.drew ((Below.refl _ W).drew)
  go_region_held_law (fun W' => W'.cell? ⟨w.heap.size, 0, none⟩ = some (.slice a1 r.lo.length c1) ∧ W'.cell? ⟨w.heap.size + 1, 0, none⟩ = some (.slice a3 r.lo.length c3)) (first | (refine ⟨?_, ?_⟩ <;> with_reducible assumption) | (go_keep; done))
    (first
      | (go_at_call 32; refine Calls.mono HT.out ?_
         rintro e w1 ⟨rfl, ⟨vl1, vw1, hB1⟩, hK1, hL1⟩
         have S1 : Hid (Still base W w1) := (Still.of ((Below.refl _ W).drew) hsW).trans (hK1.still (BK.out.here ((Below.refl _ W).drew)) hL1)
         have B1 : Hid (Book w1 base b l0 l1 vl1 vw1 (items ++ [(.slice a1 r.lo.length c1, r.lo)])) := hB1
         obtain ⟨x0, x1, x2⟩ := (HX0.out.still S1.out).cells
         obtain ⟨y0, y1, y2⟩ := (HX1.out.still S1.out).cells
         clear hB1 hK1 hL1))
  clear p0 p1 p2 q0 q1 q2 HT HO
  have hs1 : base ≤ w1.heap.size := Nat.le_trans hsW S1.out.below.size
  have HT : Hid (Calls Try.prog 32 #[.pointer (some ⟨b, 2, none⟩), .slice a2 r.hi.length c2, .slice a4 r.hi.length c4] w1.drew fun e w' => e = .returned (.tuple #[]) ∧ (∃ vl' vw', Book w' base b l0 l1 vl' vw' (items ++ [(.slice a1 r.lo.length c1, r.lo)] ++ [(.slice a2 r.hi.length c2, r.hi)])) ∧ KeptBut b vl1 vw1 w1.drew w' ∧ Below base w1.drew w') :=
    hold_any (B1.out.here ((Below.refl _ w1).drew)) ((S1.out.goes.new N2.out).here ((Below.refl _ w1).drew)).own ((S1.out.goes.new M2.out).here ((Below.refl _ w1).drew)) (fun i v' bs' k hi hk => by
      rcases items_at _ _ _ _ hi with ⟨_, h⟩ | ⟨_, h⟩
      · exact HNEW.out i v' bs' k h (.inr hk)
      · cases h
        exact fun e => H12.out k e hk) (by simp; omega) hs1
  go_wp2_with fail
  go_region_held_law (fun W' => W'.cell? ⟨w.heap.size, 1, none⟩ = some (.slice a2 r.hi.length c2) ∧ W'.cell? ⟨w.heap.size + 1, 1, none⟩ = some (.slice a4 r.hi.length c4)) (first | (refine ⟨?_, ?_⟩ <;> with_reducible assumption) | (go_keep; done))
    (first
      | (go_at_call 32; refine Calls.mono HT.out ?_
         rintro e w2 ⟨rfl, ⟨vl2, vw2, hB2⟩, hK2, hL2⟩
         have S2 : Hid (Still base w1 w2) := (Still.of ((Below.refl _ w1).drew) hs1).trans (hK2.still (B1.out.here ((Below.refl _ w1).drew)) hL2)
         have B2 : Hid (Book w2 base b l0 l1 vl2 vw2 (items ++ [(.slice a1 r.lo.length c1, r.lo)] ++ [(.slice a2 r.hi.length c2, r.hi)])) := hB2
         obtain ⟨n0, n1, n2⟩ := ((HX0.out.still S1.out).still S2.out).cells
         obtain ⟨m0, m1, m2⟩ := ((HX1.out.still S1.out).still S2.out).cells
         clear hB2 hK2 hL2))
  clear x0 x1 x2 y0 y1 y2 HT
  have S02 : Hid (Still base W w2) := S1.out.trans S2.out
  have hs2 : base ≤ w2.heap.size := Nat.le_trans hsW S02.out.below.size
  have HS := sameRange_any (w := w2) (r := r) (o := r) ⟨_, _, rfl, (S02.out.goes.new N1.out).at, (S02.out.goes.new N2.out).at⟩ ⟨_, _, rfl, (S02.out.goes.new M1.out).at, (S02.out.goes.new M2.out).at⟩
  rw [decide_eq_true rfl] at HS
  go_wp2_with fail
  refine HS.mono ?_
  rintro e w3 ⟨rfl, hb3⟩
  have S3 : Hid (Still base w w3) := (S0.out.trans S02.out).trans (Still.of hb3 hs2)
  have B3 : Hid (Book w3 base b l0 l1 vl2 vw2 (items ++ [(.slice a1 r.lo.length c1, r.lo)] ++ [(.slice a2 r.hi.length c2, r.hi)])) := B2.out.here hb3
  clear hb3 HS
  go_wp2
  go_ret
  exact ⟨rfl, S3.out, vl2, vw2, by have := B3.out; rw [List.append_assoc] at this; exact this⟩
end Go.Proofs.Ytphohkchffcjeaa
