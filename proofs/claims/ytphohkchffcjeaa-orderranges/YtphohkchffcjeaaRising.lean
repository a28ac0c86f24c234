/- The ranges of a list that are not empty, by their Lo. -/
import Derived.Test.YtphohkchffcjeaaLists
import Derived.Test.YtphohkchffcjeaaShelf
namespace Go.Proofs.Ytphohkchffcjeaa
open Go.RowKit

theorem clone_any {w : World} {v : Value} {L : List It} (h : ListAt w.heap.size w v L) :
    Calls Try.prog 58 #[v] w fun e w' => ∃ v', e = .returned v' ∧ w'.ownsRow w.heap.size 36 3 v' L.length (flat L) ∧ Below w.heap.size w w' := by
  obtain ⟨i0, hi, hz0, hz1, hz2⟩ := info36'
  obtain ⟨⟨a, c, rfl, h2, h3, h4⟩, h5, h6⟩ := h
  cases a with
  | none =>
    have hL : L = [] := by
      cases L with
      | nil => rfl
      | cons e L => obtain ⟨_, _, e1, _⟩ := h4 0 e.v1 rfl; cases e1
    subst hL
    refine (show Calls Try.prog 58 _ _ _ from AnyE.slices_Clone_nil Try.cloneR 0 c w).mono ?_
    rintro e w' ⟨rfl, rfl⟩
    exact ⟨_, rfl, World.ownsRow_nil _ _ _ _, Below.refl _ _⟩
  | some ad =>
    have q22 : ∀ (w : World) (a : Option Addr) (n c n' c' : Nat), (binOp .eql 41 (.slice a n c) (.slice none n' c')).run Try.prog w = .ok (.bool a.isNone) w := fun w a n c n' c' => Lib.run_eql_slice_nil w _ _ a n c n' c' Try.underlying41
    have HC : Hid (∀ (o : Obj) (j : Nat) (u : Value), (flat L)[j]? = some u → (w.alloc o).cell? (ad.add j) = some u) := by
      intro o j u hj
      obtain ⟨g, off, e1, e2, e3⟩ := h4 j u hj
      cases e1
      rw [add_at, (below_new w o).cell e2]
      exact e3
    have HO : Hid (∀ u ∈ flat L, u.oneCell' = true) := flat_one h6
    have HL : Hid ((flat L).length = L.length * 3) := flat_length L
    clear h2 h3 h4 h6
    go_enter Try.func58, Try.ntmps58
    go_wp2_with (at_builtin; refine wpList_append_own _ rfl _ _ 41 rfl w.heap.size 36 i0 (.agg #[.slice none 0 0, .slice none 0 0, .bool false]) 3 56 Try.underlying41 hi hz0 hz1 hz2 rfl (by decide) _ _ _ rfl (World.ownsRow_made w #[] 0 (Nat.le_refl _) (Nat.zero_le _) (by simp)) ad L.length c (flat L) rfl HL.out (HC.out _) HO.out (by unfold maxLen; omega) (by omega) (by simp) ?_
                 intro v' w' hown hgr hiff
                 have HOW : Hid _ := hown
                 have HGR : Hid _ := hgr
                 clear hown hgr hiff)
    go_ret
    refine ⟨_, rfl, ?_, (below_new w _).grown HGR.out (by simp) (fun k hk => by cases hk; exact Nat.le_refl _)⟩
    have := HOW.out
    simp only [Nat.zero_add, List.nil_append] at this
    exact this

theorem below_drew {B : Nat} {a w : World} (h : Below B a w) : Below B a w.drew := h.drew

set_option maxHeartbeats 1600000 in
set_option maxRecDepth 100000 in
theorem index_any {B : Nat} {w : World} {g S c : Nat} {D : List It} (hB : B ≤ w.heap.size) (h : RowAt w g S D) (hok : ∀ e ∈ D, e.Ok B w) (hlen : D.length ≤ 4398046511104) :
    Calls Try.prog 63 #[.slice (some ⟨g, 0, none⟩) D.length c, .func (.func 40) #[] #[]] w fun e w' => Below w.heap.size w w' ∧ ((e = .returned (.int .i64 (-1)) ∧ ∀ x ∈ D, x.r.empty = false) ∨ ∃ k : Nat, e = .returned (.int .i64 (k : Int)) ∧ (∃ x, D[k]? = some x ∧ x.r.empty = true) ∧ ∀ x ∈ D.take k, x.r.empty = false) := by
  have HR : Hid (RowAt w g S D) := h
  have HOK : Hid (∀ e ∈ D, e.Ok B w) := hok
  clear h hok
  go_enter Try.func63, Try.ntmps63
  go_wp2
  go_loopw [8] (fun i wx => ∃ k : Nat, k ≤ D.length ∧ i = .int .i64 k ∧ (∀ x ∈ D.take k, x.r.empty = false) ∧ Below w.heap.size w wx) (fun i _ => D.length - (intOf i).toNat)
  case atStart => exact ⟨0, by omega, rfl, by simp, Below.refl _ _⟩
  case round =>
    obtain ⟨k, hk, rfl, hall, hbe⟩ := hrel
    have HA : Hid (∀ x ∈ D.take k, x.r.empty = false) := hall
    have HBE : Hid (Below w.heap.size w wr) := hbe
    by_cases hlt : k < D.length
    · have hkz : (k : Int) < (D.length : Int) := by omega
      obtain ⟨x, hx⟩ : ∃ x, D[k]? = some x := ⟨_, List.getElem?_eq_getElem hlt⟩
      obtain ⟨k0, k1, k2⟩ := (HR.out.here hbe).cells k x hx
      have HX : Hid (D[k]? = some x) := hx
      have hxo : x.Ok B wr := (HOK.out x (List.mem_of_getElem? hx)).below (hbe.mono hB)
      have hem := empty_any (hxo.range.at (Nat.le_trans hB hbe.size))
      clear hall hbe hx hxo
      obtain ⟨v1, v2, r⟩ := x
      simp only [It.val] at *
      cases hem' : r.empty with
      | true =>
        rw [hem'] at hem
        go_wp2_with (go_at_call 40; refine hem.mono ?_; rintro e w' ⟨rfl, hb1⟩)
        go_ret
        exact ⟨HBE.out.trans (hb1.mono HBE.out.size), .inr ⟨k, rfl, ⟨_, HX.out, hem'⟩, HA.out⟩⟩
      | false =>
        rw [hem'] at hem
        have HA2 : Hid (∀ x ∈ D.take (k + 1), x.r.empty = false) := by
          intro y hy
          rw [List.take_add_one, HX.out] at hy
          rcases List.mem_append.1 hy with h | h
          · exact HA.out y h
          · simp at h; rw [h]; exact hem'
        go_wp2_with (go_at_call 40; refine hem.mono ?_; rintro e w' ⟨rfl, hb1⟩)
        exact ⟨⟨k + 1, by omega, by go_num, HA2.out, HBE.out.trans (hb1.mono HBE.out.size)⟩, by simp [intOf]; omega⟩
    · go_wp2
      go_ret
      refine ⟨HBE.out, .inl ⟨rfl, ?_⟩⟩
      have := HA.out
      rw [List.take_of_length_le (by omega)] at this
      exact this

/-- What has been kept of the first j. -/
def keptOf (D : List It) (j : Nat) : List It := (D.take j).filter fun x => !x.r.empty
theorem keptOf_keep {D : List It} {j : Nat} {x : It} (hx : D[j]? = some x) (he : x.r.empty = false) : keptOf D (j + 1) = keptOf D j ++ [x] := by
  unfold keptOf; rw [List.take_add_one, hx, List.filter_append]; simp [he]
theorem keptOf_skip {D : List It} {j : Nat} {x : It} (hx : D[j]? = some x) (he : x.r.empty = true) : keptOf D (j + 1) = keptOf D j := by
  unfold keptOf; rw [List.take_add_one, hx, List.filter_append]; simp [he]
theorem keptOf_le (D : List It) (j : Nat) : (keptOf D j).length ≤ j := by
  unfold keptOf
  have h1 := List.length_filter_le (fun x : It => !x.r.empty) (D.take j)
  rw [List.length_take] at h1
  omega
theorem keptOf_all {D : List It} {k : Nat} (h : ∀ x ∈ D.take k, x.r.empty = false) : keptOf D k = D.take k := by
  unfold keptOf
  rw [List.filter_eq_self]
  intro x hx
  simp [h x hx]
/-- The row while it is gone through. -/
structure Mid (D E : List It) (i j : Nat) : Prop where
  len : E.length = D.length
  low : E.take i = keptOf D j
  high : E.drop j = D.drop j
  lt : i < j
  fits : j ≤ D.length
theorem Mid.skip {D E : List It} {i j : Nat} (h : Mid D E i j) {x : It} (hx : D[j]? = some x) (he : x.r.empty = true) : Mid D E i (j + 1) :=
  ⟨h.len, by rw [h.low, keptOf_skip hx he], by rw [← List.drop_drop, ← List.drop_drop, h.high], by have := h.lt; omega, (List.getElem?_eq_some_iff.1 hx).1⟩
theorem Mid.keep {D E : List It} {i j : Nat} (h : Mid D E i j) {x : It} (hx : D[j]? = some x) (he : x.r.empty = false) : Mid D (E.set i x) (i + 1) (j + 1) := by
  have h1 := h.lt
  have h2 := (List.getElem?_eq_some_iff.1 hx).1
  have h3 := h.len
  refine ⟨by simp [h.len], ?_, ?_, by omega, h2⟩
  · rw [keptOf_keep hx he, ← h.low, List.take_add_one, List.take_set_of_le (Nat.le_refl _), List.getElem?_set_self (by omega)]
    rfl
  · rw [List.drop_set_of_lt (by omega), ← List.drop_drop, ← List.drop_drop, h.high]
theorem Mid.at {D E : List It} {i j : Nat} (h : Mid D E i j) : E[j]? = D[j]? := by
  have := congrArg (fun l => l[0]?) h.high
  simpa using this

set_option maxHeartbeats 1600000 in
set_option maxRecDepth 100000 in
theorem delete_any {B : Nat} {w : World} {g c : Nat} {D : List It} (hB : B ≤ g) (h : RowAt w g (c * 3) D) (hok : ∀ e ∈ D, e.Ok B w) (hlen : D.length ≤ 4398046511104) (hc : D.length ≤ c) :
    Calls Try.prog 57 #[.slice (some ⟨g, 0, none⟩) D.length c, .func (.func 40) #[] #[]] w fun e w' => e = .returned (.slice (some ⟨g, 0, none⟩) (keptOf D D.length).length c) ∧ RowAt w' g (c * 3) (keptOf D D.length) ∧ Below B w w' := by
  have HR : Hid (RowAt w g (c * 3) D) := h
  have HOK : Hid (∀ e ∈ D, e.Ok B w) := hok
  have hgw := h.lt
  have HI := index_any (c := c) (show B ≤ w.heap.size by omega) h hok hlen
  clear h hok
  go_enter Try.func57, Try.ntmps57
  go_wp2_with fail
  refine HI.mono ?_
  clear HI
  rintro e w1 ⟨hb1, ⟨rfl, hall⟩ | ⟨k, rfl, ⟨x, hx, hxe⟩, hall⟩⟩
  · have HB1 : Hid (Below w.heap.size w w1) := hb1
    have HK : Hid (keptOf D D.length = D) := by rw [Hid, keptOf_all (by rw [List.take_length]; exact hall), List.take_length]
    clear hb1 hall
    go_wp2
    go_ret
    rw [HK.out]
    exact ⟨rfl, HR.out.here HB1.out, HB1.out.mono (by omega)⟩
  · have HB1 : Hid (Below w.heap.size w w1) := hb1
    have hkl := (List.getElem?_eq_some_iff.1 hx).1
    have HM : Hid (Mid D D k (k + 1)) := ⟨rfl, by rw [keptOf_skip hx hxe, keptOf_all hall], rfl, by omega, hkl⟩
    clear hb1 hall hx hxe
    have hk1 : ((k : Int) == -1) = false := by rw [beq_eq_false_iff_ne]; omega
    go_wp2
    go_loopg [5, 6, 7] D.length (fun gg s5 s6 _ wr => ∃ (i j : Nat) (E : List It), s5 = .int .i64 i ∧ s6 = .int .i64 j ∧ D.length - j ≤ gg ∧ Mid D E i j ∧ RowAt wr g (c * 3) E ∧ Below B w wr)
    case atStart => exact ⟨k, k + 1, D, rfl, by go_num, by omega, HM.out, HR.out.here HB1.out, HB1.out.mono (by omega)⟩
    case round =>
      obtain ⟨i, j, E, rfl, rfl, hgg, hmid, hrow, hbe⟩ := hrel
      have hij := hmid.lt
      have hjn := hmid.fits
      have hEl := hmid.len
      have HMID : Hid (Mid D E i j) := hmid
      have HROW : Hid (RowAt wr g (c * 3) E) := hrow
      have HBE : Hid (Below B w wr) := hbe
      by_cases hlt : j < D.length
      · have hltz : (j : Int) < (D.length : Int) := by omega
        have hltz2 : (i : Int) < (D.length : Int) := by omega
        obtain ⟨x, hx⟩ : ∃ x, D[j]? = some x := ⟨_, List.getElem?_eq_getElem hlt⟩
        obtain ⟨y, hy⟩ : ∃ y, E[i]? = some y := ⟨_, List.getElem?_eq_getElem (by omega)⟩
        obtain ⟨k0, k1, k2⟩ := hrow.cells j x (by rw [hmid.at]; exact hx)
        have HX : Hid (D[j]? = some x) := hx
        have HXO : Hid (x.Ok B wr) := (HOK.out x (List.mem_of_getElem? hx)).below hbe
        obtain ⟨v1, v2, r⟩ := x
        obtain ⟨a1, c1, e1⟩ := HXO.out.lo.form
        obtain ⟨a2, c2, e2⟩ := HXO.out.hi.form
        simp only at e1 e2
        subst e1 e2
        have hgr := hrow.lt
        obtain ⟨wa, hwa⟩ : ∃ wa, wa = wr.alloc (.cells #[.slice a1 r.lo.length c1, .slice a2 r.hi.length c2, .bool r.all] 36) := ⟨_, rfl⟩
        have hba : Below wr.heap.size wr wa := by rw [hwa]; exact below_new _ _
        have hbox : Box wa wr.heap.size (.slice a1 r.lo.length c1) (.slice a2 r.hi.length c2) (.bool r.all) := by rw [hwa]; exact Box.new _ _ _ _
        have hem := empty_any ((HXO.out.below (hba.mono (Nat.le_trans hB (Nat.le_of_lt hgr)))).range.at (Nat.le_trans (Nat.le_trans hB (Nat.le_of_lt hgr)) hba.size))
        simp only [It.val] at *
        have HBA : Hid (Below wr.heap.size wr wa) := hba
        have HBOX : Hid (Box wa wr.heap.size (.slice a1 r.lo.length c1) (.slice a2 r.hi.length c2) (.bool r.all)) := hbox
        clear hmid hrow hbe hx hba
        obtain ⟨b0, b1, b2⟩ := hbox.cells
        clear hbox
        go_upto_region 8 with fail
        rw [← hwa]
        clear hwa k0 k1 k2
        cases hem' : r.empty with
        | true =>
          rw [hem'] at hem
          go_wp2_with (go_at_call 40; refine hem.mono ?_; rintro e w' ⟨rfl, hb1⟩)
          go_roundg (D.length - (j + 1))
          case measure => omega
          case rel =>
            have hbt : Below wr.heap.size wr w' := HBA.out.trans (hb1.mono HBA.out.size)
            exact ⟨i, j + 1, E, rfl, by go_num, Nat.le_refl _, HMID.out.skip HX.out hem', HROW.out.here hbt, HBE.out.trans (hbt.mono (Nat.le_trans hB (Nat.le_of_lt hgr)))⟩
        | false =>
          rw [hem'] at hem
          go_wp2_with fail
          refine hem.mono ?_
          rintro e w' ⟨rfl, hb1⟩
          have hbt : Below wr.heap.size wr w' := HBA.out.trans (hb1.mono HBA.out.size)
          have HBT : Hid (Below wr.heap.size wr w') := hbt
          obtain ⟨b0', b1', b2'⟩ := (HBOX.out.here hb1).cells
          obtain ⟨y0, y1, y2⟩ := (HROW.out.here hbt).cells i y hy
          have o0 := (HROW.out.here hbt).open (i * 3)
          have o1 := (HROW.out.here hbt).open (i * 3 + 1)
          have o2 := (HROW.out.here hbt).open (i * 3 + 2)
          clear hbt hb1 b0 b1 b2
          go_wp2
          go_roundg (D.length - (j + 1))
          case measure => omega
          case rel =>
            exact ⟨i + 1, j + 1, E.set i ⟨.slice a1 r.lo.length c1, .slice a2 r.hi.length c2, r⟩, by go_num, by go_num, Nat.le_refl _, HMID.out.keep HX.out hem', (HROW.out.here HBT.out).put i ⟨.slice a1 r.lo.length c1, .slice a2 r.hi.length c2, r⟩ (by omega), putAt_below (e := ⟨.slice a1 r.lo.length c1, .slice a2 r.hi.length c2, r⟩) (HBE.out.trans (HBT.out.mono (Nat.le_trans hB (Nat.le_of_lt hgr)))) hB⟩
      · have hnl : ¬ (j : Int) < (D.length : Int) := by omega
        have hci : ¬ c = i := by omega
        obtain ⟨vs, hcl⟩ := clear_any wr g (c * 3) E hrow i (D.length - i) (c - i) (by omega) (by omega)
        have HJ : Hid (j = D.length) := by show _ = _; omega
        clear hmid hrow hbe
        go_wp2
        go_ret
        have hm := HMID.out
        have hj := HJ.out
        subst hj
        have hk : keptOf D D.length = E.take i := hm.low.symm
        have hl : (E.take i).length = i := by rw [List.length_take]; omega
        rw [hk]
        exact ⟨by rw [hl]; rfl, (HROW.out.take i).cleared _ _ (by rw [hl]; exact Nat.le_refl _), setCells_below hB _ _ _ HBE.out⟩
end Go.Proofs.Ytphohkchffcjeaa
