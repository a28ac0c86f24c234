/- Cover. -/
import Derived.Test.YtphohkchffcjeaaSorted
import Derived.Test.YtphohkchffcjeaaUnite
namespace Go.Proofs.Ytphohkchffcjeaa
open Go.RowKit

theorem slice_one3 {B : Nat} {w : World} {e : It} (h : e.Ok B w) : ∀ u ∈ e.cells, u.oneCell' = true := fun u hu =>
  flat_one (L := [e]) (B := B) (w := w) (fun x hx => by simp at hx; rw [hx]; exact h) u (by simpa [flat] using hu)

/-- Cover, while it goes through the ranges. -/
structure Going (B : Nat) (w1 : World) (E : List It) (i : Nat) (v : Value) (C : List It) (wr : World) : Prop where
  own : wr.ownsRow w1.heap.size 36 3 v C.length (flat C)
  is : C.map (·.r) = Rg.unite ((E.take i).map (·.r))
  ok : ∀ e ∈ C, e.Ok B wr
  below : Below w1.heap.size w1 wr
  few : C.length ≤ i

theorem take_next {E : List It} {i : Nat} {x : It} (hx : E[i]? = some x) : (E.take (i + 1)).map (·.r) = (E.take i).map (·.r) ++ [x.r] := by
  rw [List.take_add_one, hx]; simp
theorem Going.append {B : Nat} {w1 wr w' : World} {E C : List It} {i : Nat} {v v' : Value} {x : It} (h : Going B w1 E i v C wr) (hx : E[i]? = some x) (hadd : Rg.add (C.map (·.r)) x.r = C.map (·.r) ++ [x.r]) (hok : x.Ok B wr) (hB : B ≤ w1.heap.size)
    (own : w'.ownsRow w1.heap.size 36 3 v' (C.length + 1) (flat C ++ x.cells)) (hb : Below w1.heap.size wr w') : Going B w1 E (i + 1) v' (C ++ [x]) w' := by
  refine ⟨?_, ?_, fun e he => ?_, h.below.trans hb, by have := h.few; simp; omega⟩
  · rw [flat_append, List.length_append]
    simpa [flat] using own
  · rw [take_next hx, Rg.unite_snoc, ← h.is, hadd]; simp
  · rcases List.mem_append.1 he with h' | h'
    · exact (h.ok e h').below (hb.mono hB)
    · simp at h'; rw [h']; exact hok.below (hb.mono hB)
theorem Going.stretch {B : Nat} {w1 wr w' : World} {E C C' : List It} {i : Nat} {v : Value} {x l y : It} (h : Going B w1 E i v C wr) (hC : C = C' ++ [l]) (hx : E[i]? = some x) (hre : Rg.reach l.r x.r.lo = true) (hy : y.r = l.r.stretch x.r) (hok : y.Ok B w') (hB : B ≤ w1.heap.size)
    (own : w'.ownsRow w1.heap.size 36 3 v C.length (flat (C' ++ [y]))) (hb : Below w1.heap.size wr w') : Going B w1 E (i + 1) v (C' ++ [y]) w' := by
  subst hC
  refine ⟨by simpa using own, ?_, fun e he => ?_, h.below.trans hb, by have := h.few; simp at *; omega⟩
  · have := h.is
    rw [List.map_append] at this
    rw [take_next hx, Rg.unite_snoc, ← this]
    simp only [List.map_cons, List.map_nil, List.map_append]
    rw [Rg.add_last, if_pos hre, hy]
  · rcases List.mem_append.1 he with h' | h'
    · exact (h.ok e (List.mem_append_left _ h')).below (hb.mono hB)
    · simp at h'; rw [h']; exact hok
theorem add_apart {C : List It} {l x : It} (h : Rg.reach l.r x.r.lo = false) : Rg.add ((C ++ [l]).map (·.r)) x.r = (C ++ [l]).map (·.r) ++ [x.r] := by
  simp only [List.map_append, List.map_cons, List.map_nil]
  rw [Rg.add_last, if_neg (by simp [h])]

theorem KeyIn.back {B : Nat} {w w' : World} {v : Value} {ks : Key} (h : KeyIn B w' v ks) (hb : Below B w w') : KeyIn B w v ks := by
  obtain ⟨⟨a, c, rfl, h1, h2⟩, h3⟩ := h
  refine ⟨⟨a, c, rfl, fun j x hj => ?_, h2⟩, h3⟩
  obtain ⟨g, off, e1, e2, e3⟩ := h1 j x hj
  exact ⟨g, off, e1, e2, by rw [← hb.cell e2]; exact e3⟩
theorem It.Ok.back {B : Nat} {w w' : World} {e : It} (h : e.Ok B w') (hb : Below B w w') : e.Ok B w := ⟨h.lo.back hb, h.hi.back hb⟩
/-- The blocks of some ranges' keys. -/
def blocks (F : List It) : List Nat := (F.flatMap fun e => [e.v1, e.v2]).filterMap Value.ownBlock
theorem blocks_append (F G : List It) : blocks (F ++ G) = blocks F ++ blocks G := by simp [blocks]
theorem mem_blocks {F : List It} {b : Nat} (h : b ∈ blocks F) : ∃ e ∈ F, e.v1.ownBlock = some b ∨ e.v2.ownBlock = some b := by
  obtain ⟨v, hv, hb⟩ := List.mem_filterMap.1 h
  obtain ⟨e, he, hv⟩ := List.mem_flatMap.1 hv
  simp at hv
  rcases hv with rfl | rfl
  · exact ⟨e, he, .inl hb⟩
  · exact ⟨e, he, .inr hb⟩
/-- A list of ranges of new memory, each key in a block of its own. -/
structure NewList (base : Nat) (w : World) (v : Value) (F : List It) : Prop where
  own : w.ownsRow base 36 3 v F.length (flat F)
  keys : ∀ e ∈ F, NewKey base w e.v1 e.r.lo ∧ NewKey base w e.v2 e.r.hi
  apart : (blocks F).Nodup
theorem blocks_lt {base : Nat} {w : World} {F : List It} (h : ∀ e ∈ F, NewKey base w e.v1 e.r.lo ∧ NewKey base w e.v2 e.r.hi) {b : Nat} (hb : b ∈ blocks F) : b < w.heap.size := by
  obtain ⟨e, he, h' | h'⟩ := mem_blocks hb
  · exact (own_type (h e he).1.own b h').1
  · exact (own_type (h e he).2.own b h').1
/-- Cover's second loop: the first k are in their form. -/
structure Done (B : Nat) (w : World) (C : List It) (g c k : Nat) (F : List It) (wr : World) : Prop where
  row : RowAt wr g (c * 3) (F ++ C.drop k)
  len : F.length = k
  is : F.map (·.r) = ((C.take k).map (·.r)).map Rg.form
  keys : ∀ e ∈ F, NewKey B wr e.v1 e.r.lo ∧ NewKey B wr e.v2 e.r.hi
  apart : (blocks F).Nodup
  below : Below B w wr
theorem NewKey.putAt {base : Nat} {w : World} {v : Value} {k : Key} {g S i : Nat} {D : List It} {e : It} (h : NewKey base w v k) (hR : RowAt w g S D) : NewKey base (putAt w g i e) v k :=
  ⟨own_same h.1 fun b hb _ => by
    obtain ⟨_, _, cur, hc⟩ := own_type h.1 b hb
    obtain ⟨cur', hc', _⟩ := hR.is
    exact putAt_other (tag_ne hc hc' (by decide)), h.2⟩
theorem Done.next {B : Nat} {w : World} {C F : List It} {g c k : Nat} {wr w3 : World} {x y : It} (h : Done B w C g c k F wr) (hx : C[k]? = some x) (hy : y.r = x.r.form) (hk1 : NewKey wr.heap.size w3 y.v1 y.r.lo) (hk2 : NewKey wr.heap.size w3 y.v2 y.r.hi) (hap : ∀ b, y.v1.ownBlock = some b → y.v2.ownBlock ≠ some b)
    (hb : Below wr.heap.size wr w3) (hB : B ≤ g) : Done B w C g c (k + 1) (F ++ [y]) (putAt w3 g k y) := by
  have hR := h.row.here hb
  have hl := h.len
  have hkC := (List.getElem?_eq_some_iff.1 hx).1
  have hgl := h.row.lt
  have hBr : B ≤ wr.heap.size := by omega
  refine ⟨?_, by simp [hl], ?_, fun e he => ?_, ?_, putAt_below (h.below.trans (hb.mono hBr)) hB⟩
  · have := hR.put k y (by simp [hl]; omega)
    have e : (F ++ C.drop k).set k y = F ++ [y] ++ C.drop (k + 1) := by
      rw [List.drop_eq_getElem_cons hkC, List.set_append_right _ _ (by omega), hl, Nat.sub_self, List.set_cons_zero, List.append_assoc]
      rfl
    rwa [e] at this
  · rw [List.map_append, h.is, List.take_add_one, hx]
    simp [hy]
  · rcases List.mem_append.1 he with h' | h'
    · exact ⟨((h.keys e h').1.here hb).putAt hR, ((h.keys e h').2.here hb).putAt hR⟩
    · simp at h'; rw [h']; exact ⟨(hk1.mono hBr).putAt hR, (hk2.mono hBr).putAt hR⟩
  · rw [blocks_append, List.nodup_append]
    refine ⟨h.apart, ?_, fun a ha b hb' e => ?_⟩
    · simp only [blocks, List.flatMap_cons, List.flatMap_nil, List.append_nil]
      cases h1 : y.v1.ownBlock with
      | none =>
        cases h2 : y.v2.ownBlock with
        | none => simp [h1, h2]
        | some c => simp [h1, h2]
      | some b =>
        cases h2 : y.v2.ownBlock with
        | none => simp [h1, h2]
        | some c =>
          have : b ≠ c := fun e => hap b h1 (by rw [h2, e])
          simp [h1, h2, this]
    · subst e
      have h1 := blocks_lt h.keys ha
      obtain ⟨z, hz, h' | h'⟩ := mem_blocks hb' <;> simp at hz <;> subst hz
      · have := (own_type hk1.own a h').2.1; omega
      · have := (own_type hk2.own a h').2.1; omega

set_option maxHeartbeats 1600000 in
set_option maxRecDepth 100000 in
theorem cover_any {w : World} {v : Value} {L : List It} (h : ListAt w.heap.size w v L) :
    Calls Try.prog 19 #[v] w fun e w' => ∃ v' F, e = .returned v' ∧ F.map (·.r) = Rg.cover (L.map (·.r)) ∧ NewList w.heap.size w' v' F ∧ F.length ≤ L.length ∧ Below w.heap.size w w' := by
  obtain ⟨i0, hi, hz0, hz1, hz2⟩ := info36'
  have HC := rising_any h
  have HL : Hid (ListAt w.heap.size w v L) := h
  have hlen : L.length ≤ 2513169434916 := by have := h.short; omega
  obtain ⟨a, c, rfl, _⟩ := h.is
  clear h
  go_enter Try.func19, Try.ntmps19
  go_wp2_with fail
  refine HC.mono ?_
  rintro e w1 ⟨v1, E, rfl, hp, hr, hown, hb1⟩
  have hEL : E.length ≤ L.length := by rw [hp.length_eq]; exact List.length_filter_le _ _
  have HP : Hid (E.Perm (L.filter fun x => !x.r.empty)) := hp
  have HR : Hid (Rises E) := hr
  have HB1 : Hid (Below w.heap.size w w1) := hb1
  have HOWN : Hid (w1.ownsRow w.heap.size 36 3 v1 E.length (flat E)) := hown
  have HOK : Hid (∀ e ∈ E, e.Ok w.heap.size w1) := fun e he => (HL.out.ok e (List.mem_filter.1 (hp.mem_iff.1 he)).1).below hb1
  obtain ⟨a9, c9, rfl⟩ : ∃ a9 c9, v1 = .slice a9 E.length c9 := by
    rcases own_row hown with ⟨rfl, rfl⟩ | ⟨g, cc, rfl, _⟩
    · exact ⟨_, _, rfl⟩
    · exact ⟨_, _, rfl⟩
  have HE : Hid (E = [] ∨ ∃ g, a9 = some ⟨g, 0, none⟩ ∧ RowAt w1 g (c9 * 3) E) := by
    rcases own_row hown with ⟨_, h⟩ | ⟨g, cc, e, _, _, _, h⟩
    · exact .inl h
    · cases e; exact .inr ⟨g, rfl, h⟩
  clear HC hp hr hown hb1
  go_wp2
  go_loopw [11, 3, 5] (fun s11 s3 _ wr => ∃ (i : Nat) (C : List It), s11 = .int .i64 i ∧ i ≤ E.length ∧ Going w.heap.size w1 E i s3 C wr) (fun s11 _ _ _ => E.length - (intOf s11).toNat)
  case atStart => exact ⟨0, [], rfl, Nat.zero_le _, World.ownsRow_nil _ _ _ _, rfl, fun e he => by simp at he, Below.refl _ _, Nat.le_refl _⟩
  case round =>
    obtain ⟨i, C, rfl, hiE, hgo⟩ := hrel
    have HGO : Hid _ := hgo
    by_cases hlt : i < E.length
    · have hltz : (i : Int) < (E.length : Int) := by omega
      obtain ⟨x, hx⟩ : ∃ x, E[i]? = some x := ⟨_, List.getElem?_eq_getElem hlt⟩
      obtain ⟨ge, rfl, hrow⟩ : ∃ g, a9 = some ⟨g, 0, none⟩ ∧ RowAt w1 g (c9 * 3) E := by
        rcases HE.out with h | h
        · rw [h] at hlt; simp at hlt
        · exact h
      obtain ⟨k0, k1, k2⟩ := (hrow.here hgo.below).cells i x hx
      have HX : Hid (E[i]? = some x) := hx
      have hsz : w.heap.size ≤ w1.heap.size := HB1.out.size
      have hsz2 : w1.heap.size ≤ wr.heap.size := hgo.below.size
      have HXO : Hid (x.Ok w.heap.size wr) := (HOK.out x (List.mem_of_getElem? hx)).below (hgo.below.mono hsz)
      obtain ⟨y1, y2, r⟩ := x
      obtain ⟨a1, c1, e1⟩ := HXO.out.lo.form
      obtain ⟨a2, c2, e2⟩ := HXO.out.hi.form
      simp only at e1 e2
      subst e1 e2
      obtain ⟨wa, hwa⟩ : ∃ wa, wa = wr.alloc (.cells #[.slice a1 r.lo.length c1, .slice a2 r.hi.length c2, .bool r.all] 36) := ⟨_, rfl⟩
      have hba : Below wr.heap.size wr wa := by rw [hwa]; exact below_new _ _
      have hbox : Box wa wr.heap.size (.slice a1 r.lo.length c1) (.slice a2 r.hi.length c2) (.bool r.all) := by rw [hwa]; exact Box.new _ _ _ _
      have HBA : Hid (Below wr.heap.size wr wa) := hba
      have HBOX : Hid (Box wa wr.heap.size (.slice a1 r.lo.length c1) (.slice a2 r.hi.length c2) (.bool r.all)) := hbox
      obtain ⟨a3, c3, rfl⟩ : ∃ a3 c3, u3 = .slice a3 C.length c3 := by
        rcases own_row hgo.own with ⟨rfl, rfl⟩ | ⟨g, cc, rfl, _⟩
        · exact ⟨_, _, rfl⟩
        · exact ⟨_, _, rfl⟩
      clear hrow hgo hx hba
      obtain ⟨b0, b1, b2⟩ := hbox.cells
      clear hbox
      go_upto_region 5 with fail
      rw [← hwa]
      clear hwa k0 k1 k2
      have hsa : wr.heap.size ≤ wa.heap.size := HBA.out.size
      have HCELL : Hid (∀ (W : World) (j : Nat) (u : Value), (It.cells ⟨.slice a1 r.lo.length c1, .slice a2 r.hi.length c2, r⟩)[j]? = some u → (W.alloc (.cells #[.slice a1 r.lo.length c1, .slice a2 r.hi.length c2, .bool r.all] 36)).cell? ((⟨W.heap.size, 0, none⟩ : Addr).add j) = some u) := by
        intro W j u hj
        rw [add_at, Nat.zero_add, row_cell (heap_alloc_last W _)]
        match j, hj with
        | 0, hj => simpa [It.cells] using hj
        | 1, hj => simpa [It.cells] using hj
        | 2, hj => simpa [It.cells] using hj
        | j + 3, hj => simp [It.cells] at hj
      have hfew := HGO.out.few
      have HOWN2 : Hid (∀ (W : World) (o : Obj), Below wa.heap.size wa W → (W.alloc o).ownsRow w1.heap.size 36 3 (.slice a3 C.length c3) C.length (flat C)) := by
        intro W o hW
        have hb : Below wr.heap.size wr (W.alloc o) := (HBA.out.trans (hW.mono HBA.out.size)).alloc (Nat.le_trans HBA.out.size hW.size) o
        exact own_same HGO.out.own fun b _ hl => hb.block b hl
      have HGROW : Hid (∀ (W : World) (o : Obj) (w' : World), Below wa.heap.size wa W → (W.alloc o).grownBy w' (Value.slice a3 C.length c3).ownBlock → Below w1.heap.size wr w') := by
        intro W o w' hW hg
        have hb : Below wr.heap.size wr (W.alloc o) := (HBA.out.trans (hW.mono HBA.out.size)).alloc (Nat.le_trans HBA.out.size hW.size) o
        exact (hb.mono HGO.out.below.size).grown hg (Nat.le_trans HGO.out.below.size hb.size) (fun k hk => (own_type HGO.out.own k hk).2.1)
      have HONE : Hid (∀ u ∈ It.cells ⟨.slice a1 r.lo.length c1, .slice a2 r.hi.length c2, r⟩, u.oneCell' = true) := slice_one3 HXO.out
      rcases List.eq_nil_or_concat C with hC | ⟨C', l, hC⟩
      · have hn0 : (C.length : Int) = 0 := by rw [hC]; rfl
        have HADD : Hid (Rg.add (C.map (·.r)) r = C.map (·.r) ++ [r]) := by rw [hC]; rfl
        clear hC
        go_wp2_with fail
        go_quiet (fail)
        obtain ⟨W, hW⟩ : ∃ W, W = wa.drewN nq := ⟨_, rfl⟩
        have hbW : Below wa.heap.size wa W := by rw [hW]; exact below_draws (Below.refl _ _) nq
        have hbox2 := HBOX.out.here hbW
        rw [← hW]
        have HBW : Hid (Below wa.heap.size wa W) := hbW
        have hsW : wa.heap.size ≤ W.heap.size := hbW.size
        clear hW b0 b1 b2 hbW hn0
        obtain ⟨b0, b1, b2⟩ := hbox2.cells
        clear hbox2
        go_wp2_with (at_builtin
                     refine wpList_append_own _ rfl _ _ 41 rfl w1.heap.size 36 i0 (.agg #[.slice none 0 0, .slice none 0 0, .bool false]) 3 56 Try.underlying41 hi hz0 hz1 hz2 rfl (by decide) _ C.length (flat C) rfl (HOWN2.out W _ HBW.out) ⟨W.heap.size, 0, none⟩ 1 1 (It.cells ⟨.slice a1 r.lo.length c1, .slice a2 r.hi.length c2, r⟩) rfl rfl (HCELL.out W) HONE.out (by unfold maxLen; omega) (by omega) (by simp; omega) ?_
                     intro v' w' hown hgr hiff
                     have HOW : Hid (w'.ownsRow w1.heap.size 36 3 v' (C.length + 1) (flat C ++ It.cells ⟨.slice a1 r.lo.length c1, .slice a2 r.hi.length c2, r⟩)) := hown
                     have HGR : Hid _ := hgr
                     clear hown hgr hiff)
        exact ⟨⟨i + 1, C ++ [⟨.slice a1 r.lo.length c1, .slice a2 r.hi.length c2, r⟩], by go_num, by omega, HGO.out.append HX.out HADD.out HXO.out hsz HOW.out (HGROW.out W _ w' HBW.out HGR.out)⟩, by simp [intOf]; omega⟩
      · simp only [List.concat_eq_append] at hC
        obtain ⟨n, hnC⟩ : ∃ n, C'.length = n := ⟨_, rfl⟩
        have hCl : C.length = n + 1 := by rw [hC]; simp [hnC]
        have hn1 : (C.length : Int) - 1 = (n : Int) := by omega
        have hn2 : (n : Int) < (C.length : Int) := by omega
        have HC : Hid (C = C' ++ [l]) := hC
        have HCL : Hid (C.length = n + 1) := hCl
        clear hCl
        have hl : C[n]? = some l := by rw [hC, ← hnC]; simp
        obtain ⟨gc, rfl, hgcb, hcm, hcrow⟩ : ∃ g, a3 = some ⟨g, 0, none⟩ ∧ w1.heap.size ≤ g ∧ c3 ≤ maxLen ∧ RowAt wr g (c3 * 3) C := by
          rcases own_row HGO.out.own with ⟨_, h⟩ | ⟨g, cc, e, hb, _, hm, h⟩
          · rw [h] at hC; simp at hC
          · cases e; exact ⟨g, rfl, hb, hm, h⟩
        have HCROW : Hid (RowAt wr gc (c3 * 3) C) := hcrow
        have HLO : Hid (l.Ok w.heap.size wr) := HGO.out.ok l (by rw [hC]; simp)
        obtain ⟨l1, l2, lr⟩ := l
        obtain ⟨a5, c5, e1⟩ := HLO.out.lo.form
        obtain ⟨a6, c6, e2⟩ := HLO.out.hi.form
        simp only at e1 e2
        subst e1 e2
        obtain ⟨d0, d1, d2⟩ := (hcrow.here HBA.out).cells n _ hl
        have hszr : w.heap.size ≤ wr.heap.size := by omega
        have HRE := reaches_any (w := wa.drew) ((((HLO.out.below (HBA.out.mono hszr)).below ((Below.refl w.heap.size wa).drew)).range.at (by show w.heap.size ≤ wa.heap.size; omega))) (((HXO.out.below (HBA.out.mono hszr)).below ((Below.refl w.heap.size wa).drew)).lo.at (by show w.heap.size ≤ wa.heap.size; omega))
        simp only [It.val] at HRE
        have HLN : Hid (C[n]? = some ⟨.slice a5 lr.lo.length c5, .slice a6 lr.hi.length c6, lr⟩) := hl
        clear hC hcrow hl
        go_wp2_with fail
        cases hre : Rg.reach lr r.lo with
        | false =>
          have hre' : (lr.all || decide (r.lo ≤ lr.hi)) = false := hre
          rw [hre'] at HRE
          have HADD : Hid (Rg.add (C.map (·.r)) r = C.map (·.r) ++ [r]) := by rw [HC.out]; exact add_apart (l := ⟨.slice a5 lr.lo.length c5, .slice a6 lr.hi.length c6, lr⟩) (x := ⟨.slice a1 r.lo.length c1, .slice a2 r.hi.length c2, r⟩) hre
          clear hre hre'
          go_region_held_law (fun W' => W'.cell? ⟨gc, n * 3, none⟩ = some (.slice a5 lr.lo.length c5) ∧ W'.cell? ⟨gc, n * 3 + 1, none⟩ = some (.slice a6 lr.hi.length c6) ∧ W'.cell? ⟨gc, n * 3 + 2, none⟩ = some (.bool lr.all) ∧ W'.cell? ⟨wr.heap.size, 0, none⟩ = some (.slice a1 r.lo.length c1)) (first | go_keep | (refine ⟨?_, ?_, ?_, ?_⟩ <;> assumption))
            (first
              | (go_at_call 47; refine HRE.mono ?_; rintro e w2 ⟨rfl, hb2⟩
                 have HBW : Hid (Below wa.heap.size wa w2) := ((Below.refl _ wa).drew).trans hb2
                 clear hb2
                 obtain ⟨d0', d1', d2'⟩ := ((HCROW.out.here HBA.out).here HBW.out).cells n _ HLN.out
                 obtain ⟨b0', b1', b2'⟩ := (HBOX.out.here HBW.out).cells))
          have hsW : wa.heap.size ≤ w2.heap.size := HBW.out.size
          clear d0 d1 d2 b0 b1 b2
          go_wp2_with (at_builtin
                       refine wpList_append_own _ rfl _ _ 41 rfl w1.heap.size 36 i0 (.agg #[.slice none 0 0, .slice none 0 0, .bool false]) 3 56 Try.underlying41 hi hz0 hz1 hz2 rfl (by decide) _ C.length (flat C) rfl (HOWN2.out w2 _ HBW.out) ⟨w2.heap.size, 0, none⟩ 1 1 (It.cells ⟨.slice a1 r.lo.length c1, .slice a2 r.hi.length c2, r⟩) rfl rfl (HCELL.out w2) HONE.out (by unfold maxLen; omega) (by omega) (by simp; omega) ?_
                       intro v' w' hown hgr hiff
                       have HOW : Hid (w'.ownsRow w1.heap.size 36 3 v' (C.length + 1) (flat C ++ It.cells ⟨.slice a1 r.lo.length c1, .slice a2 r.hi.length c2, r⟩)) := hown
                       have HGR : Hid _ := hgr
                       clear hown hgr hiff)
          exact ⟨⟨i + 1, C ++ [⟨.slice a1 r.lo.length c1, .slice a2 r.hi.length c2, r⟩], by go_num, by omega, HGO.out.append HX.out HADD.out HXO.out hsz HOW.out (HGROW.out w2 _ w' HBW.out HGR.out)⟩, by simp [intOf]; omega⟩
        | true =>
          have hre' : (lr.all || decide (r.lo ≤ lr.hi)) = true := hre
          rw [hre'] at HRE
          have HREA : Hid (Rg.reach lr r.lo = true) := hre
          clear hre hre'
          go_region_held_law (fun W' => W'.cell? ⟨gc, n * 3, none⟩ = some (.slice a5 lr.lo.length c5) ∧ W'.cell? ⟨gc, n * 3 + 1, none⟩ = some (.slice a6 lr.hi.length c6) ∧ W'.cell? ⟨gc, n * 3 + 2, none⟩ = some (.bool lr.all) ∧ W'.cell? ⟨wr.heap.size, 0, none⟩ = some (.slice a1 r.lo.length c1)) (first | go_keep | (refine ⟨?_, ?_, ?_, ?_⟩ <;> assumption))
            (first
              | (go_at_call 47; refine HRE.mono ?_; rintro e w2 ⟨rfl, hb2⟩
                 have HBW : Hid (Below wa.heap.size wa w2) := ((Below.refl _ wa).drew).trans hb2
                 clear hb2
                 obtain ⟨d0', d1', d2'⟩ := ((HCROW.out.here HBA.out).here HBW.out).cells n _ HLN.out
                 obtain ⟨b0', b1', b2'⟩ := (HBOX.out.here HBW.out).cells))
          have hsW : wa.heap.size ≤ w2.heap.size := HBW.out.size
          clear d0 d1 d2 b0 b1 b2
          have HST := stretch_any (w := w2.drew) (B := w.heap.size) (by show w.heap.size ≤ w2.heap.size; omega) ((((HLO.out.below (HBA.out.mono hszr)).below (HBW.out.mono (by omega))).below ((Below.refl w.heap.size w2).drew)).range) ((((HXO.out.below (HBA.out.mono hszr)).below (HBW.out.mono (by omega))).below ((Below.refl w.heap.size w2).drew)).range)
          simp only [It.val] at HST
          go_wp2_with fail
          go_region_with (go_at_call 48; refine HST.mono ?_; rintro e w3 ⟨v', rfl, hv', hb3⟩
                          obtain ⟨⟨y1, y2, yr⟩, rfl, hyr, hyo⟩ := hv'.it
                          obtain ⟨a7, c7, e1⟩ := hyo.lo.form
                          obtain ⟨a8, c8, e2⟩ := hyo.hi.form
                          simp only at e1 e2 hyr
                          subst e1 e2
                          simp only [It.val]
                          have HB3 : Hid (Below w2.heap.size w2 w3) := ((Below.refl _ w2).drew).trans hb3
                          have HYO : Hid (It.Ok w.heap.size w3 ⟨.slice a7 yr.lo.length c7, .slice a8 yr.hi.length c8, yr⟩) := hyo
                          have HYR : Hid (yr = lr.stretch r) := hyr
                          have HCROW3 : Hid (RowAt w3 gc (c3 * 3) C) := ((HCROW.out.here HBA.out).here HBW.out).here HB3.out
                          obtain ⟨z0, z1, z2⟩ := HCROW3.out.cells n _ HLN.out
                          have o0 := HCROW3.out.open (n * 3)
                          have o1 := HCROW3.out.open (n * 3 + 1)
                          have o2 := HCROW3.out.open (n * 3 + 2)
                          clear hv' hb3 hyr hyo)
          all_goals
            go_wp2
            have hput := HCROW3.out.put n ⟨.slice a7 yr.lo.length c7, .slice a8 yr.hi.length c8, yr⟩ (by rw [HCL.out]; omega)
            have hset : C.set n ⟨.slice a7 yr.lo.length c7, .slice a8 yr.hi.length c8, yr⟩ = C' ++ [⟨.slice a7 yr.lo.length c7, .slice a8 yr.hi.length c8, yr⟩] := by rw [HC.out, ← hnC]; simp
            have hbr : Below wr.heap.size wr w3 := (HBA.out.trans (HBW.out.mono hsa)).trans (HB3.out.mono (by omega))
            have hbp : Below w1.heap.size wr (putAt w3 gc n ⟨.slice a7 yr.lo.length c7, .slice a8 yr.hi.length c8, yr⟩) := putAt_below (hbr.mono hsz2) hgcb
            have hgl : w.heap.size ≤ gc := by omega
            rw [hset] at hput
            have hown := hput.own hgcb hcm
            have hl1 : (C' ++ [(⟨.slice a7 yr.lo.length c7, .slice a8 yr.hi.length c8, yr⟩ : It)]).length = C.length := by rw [HC.out]; simp
            rw [hl1] at hown
            have hok2 : It.Ok w.heap.size (putAt w3 gc n ⟨.slice a7 yr.lo.length c7, .slice a8 yr.hi.length c8, yr⟩) ⟨.slice a7 yr.lo.length c7, .slice a8 yr.hi.length c8, yr⟩ := HYO.out.below (putAt_below (Below.refl _ w3) hgl)
            have hgo3 := Going.stretch (y := ⟨.slice a7 yr.lo.length c7, .slice a8 yr.hi.length c8, yr⟩) HGO.out HC.out HX.out HREA.out HYR.out hok2 hsz hown hbp
            exact ⟨⟨i + 1, _, by go_num, by omega, hgo3⟩, by simp [intOf]; omega⟩
    · have hiE' : i = E.length := by omega
      have hsz : w.heap.size ≤ w1.heap.size := HB1.out.size
      have HBR : Hid (Below w.heap.size w wr) := HB1.out.trans (hgo.below.mono hsz)
      have HIS : Hid ((C.map (·.r)).map Rg.form = Rg.cover (L.map (·.r))) := by
        have h1 := hgo.is
        rw [hiE', List.take_length] at h1
        rw [Hid, h1]
        apply Rg.unite_cover
        · have := HP.out.map (·.r)
          rw [List.filter_map]
          exact this
        · exact List.pairwise_map.2 HR.out
      have HFEW : Hid (C.length ≤ L.length) := by have := hgo.few; show _ ≤ _; omega
      have HCOK : Hid (∀ e ∈ C, e.Ok w.heap.size w) := fun e he => (hgo.ok e he).back HBR.out
      have hCL : C.length ≤ 2513169434916 := by have := HFEW.out; omega
      rcases own_row hgo.own with ⟨rfl, hC⟩ | ⟨gc, c3, rfl, hgcb, hcl, hcm, hcrow⟩
      · have HCN : Hid (C = []) := hC
        clear hgo hC
        have hltn : ¬ (i : Int) < (E.length : Int) := by omega
        go_wp2
        go_loopw [45] (fun s45 wx => s45 = .int .i64 0 ∧ wx = wr) (fun _ _ => 0)
        case atStart => exact ⟨rfl, rfl⟩
        case round =>
          obtain ⟨rfl, rfl⟩ := hrel
          go_wp2
          go_ret
          refine ⟨_, [], rfl, ?_, ⟨World.ownsRow_nil _ _ _ _, fun e he => by simp at he, by simp [blocks]⟩, by simp, HBR.out⟩
          rw [← HIS.out, HCN.out]
          rfl
      · have HCROW : Hid (RowAt wr gc (c3 * 3) C) := hcrow
        have hltn : ¬ (i : Int) < (E.length : Int) := by omega
        have hgB : w.heap.size ≤ gc := by omega
        clear hgo hcrow
        go_wp2
        go_loopw [45, 7] (fun s45 _ wx => ∃ (k : Nat) (F : List It), s45 = .int .i64 k ∧ k ≤ C.length ∧ Done w.heap.size w C gc c3 k F wx) (fun s45 _ _ => C.length - (intOf s45).toNat)
        case atStart => exact ⟨0, [], rfl, Nat.zero_le _, by simpa using HCROW.out, rfl, rfl, fun e he => by simp at he, by simp [blocks], HBR.out⟩
        case round =>
          obtain ⟨k, F, rfl, hkC, hdone⟩ := hrel
          have HD : Hid _ := hdone
          by_cases hkl : k < C.length
          · have hkz : (k : Int) < (C.length : Int) := by omega
            obtain ⟨x, hx⟩ : ∃ x, C[k]? = some x := ⟨_, List.getElem?_eq_getElem hkl⟩
            have hx2 : (F ++ C.drop k)[k]? = some x := by
              rw [List.getElem?_append_right (by rw [hdone.len]; exact Nat.le_refl _), hdone.len, Nat.sub_self, List.getElem?_drop, Nat.add_zero]
              exact hx
            obtain ⟨k0, k1, k2⟩ := hdone.row.cells k x hx2
            have hxo : x.Ok w.heap.size wr := (HCOK.out x (List.mem_of_getElem? hx)).below hdone.below
            have HF := form_any (hxo.range.at hdone.below.size)
            have HX : Hid (C[k]? = some x) := hx
            have HX2 : Hid ((F ++ C.drop k)[k]? = some x) := hx2
            obtain ⟨x1, x2, r⟩ := x
            obtain ⟨a1, c1, e1⟩ := hxo.lo.form
            obtain ⟨a2, c2, e2⟩ := hxo.hi.form
            simp only at e1 e2
            subst e1 e2
            simp only [It.val] at HF
            clear hdone hx hx2 hxo
            go_wp2_with fail
            refine HF.mono ?_
            rintro e w3 ⟨v', rfl, hnew, hb3⟩
            obtain ⟨y1, y2, rfl, hn1, hn2, hap⟩ := hnew.is
            obtain ⟨a7, c7, e1, _⟩ := hn1.at.is
            obtain ⟨a8, c8, e2, _⟩ := hn2.at.is
            subst e1 e2
            have HN1 : Hid _ := hn1
            have HN2 : Hid _ := hn2
            have HAP : Hid _ := hap
            have HB3 : Hid (Below wr.heap.size wr w3) := hb3
            obtain ⟨z0, z1, z2⟩ := (HD.out.row.here hb3).cells k _ HX2.out
            have o0 := (HD.out.row.here hb3).open (k * 3)
            have o1 := (HD.out.row.here hb3).open (k * 3 + 1)
            have o2 := (HD.out.row.here hb3).open (k * 3 + 2)
            clear HF hn1 hn2 hap hb3 hnew k0 k1 k2
            go_wp2
            have hd2 := Done.next (y := ⟨.slice a7 r.form.lo.length c7, .slice a8 r.form.hi.length c8, r.form⟩) HD.out HX.out rfl HN1.out HN2.out HAP.out HB3.out hgB
            exact ⟨⟨k + 1, _, by go_num, by omega, hd2⟩, by simp [intOf]; omega⟩
          · have hkz : ¬ (k : Int) < (C.length : Int) := by omega
            clear hdone
            go_wp2
            go_ret
            have hk : k = C.length := by omega
            have hd := HD.out
            rw [hk] at hd
            have hr := hd.row
            rw [List.drop_length, List.append_nil] at hr
            have hl := hd.len
            have hown : wr.ownsRow w.heap.size 36 3 (.slice (some ⟨gc, 0, none⟩) C.length c3) F.length (flat F) := by rw [← hl]; exact hr.own hgB hcm
            have hnl : NewList w.heap.size wr (.slice (some ⟨gc, 0, none⟩) C.length c3) F := ⟨hown, hd.keys, hd.apart⟩
            have his : F.map (·.r) = Rg.cover (L.map (·.r)) := by rw [hd.is, List.take_length]; exact HIS.out
            have hfl : F.length ≤ L.length := by rw [hl]; exact HFEW.out
            first
              | exact ⟨_, F, rfl, his, hnl, hfl, hd.below⟩
              | exact ⟨_, rfl, F, his, hnl, hfl, hd.below⟩
              | exact ⟨_, rfl, ⟨F, his, hnl, hfl⟩, hd.below⟩
end Go.Proofs.Ytphohkchffcjeaa
