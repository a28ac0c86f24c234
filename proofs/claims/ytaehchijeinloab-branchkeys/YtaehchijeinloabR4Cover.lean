/- The document's Cover. -/
import Derived.Test.YtaehchijeinloabR4ByLo
namespace Go.Proofs.Ytaehchijeinloab
open Go.RowKit

theorem NewKey.putAt {base : Nat} {w : World} {v : Value} {k : Key} {g S i : Nat} {D : List It} {e : It} (h : NewKey base w v k) (hR : RowAt w g S D) : NewKey base (putAt w g i e) v k :=
  ⟨own_same h.1 fun b hb _ => by
    obtain ⟨_, _, cur, hc⟩ := own_type h.1 b hb
    obtain ⟨cur', hc', _⟩ := hR.is
    exact putAt_other (tag_ne hc hc' (by decide)), h.2⟩

/-- Cover, while it takes those out that are not empty. -/
structure Taking (w : World) (L : List It) (i : Nat) (v : Value) (C : List It) (wr : World) : Prop where
  own : wr.ownsRow w.heap.size 28 3 v C.length (flat C)
  is : C = (L.take i).filter fun x => !x.r.empty
  below : Below w.heap.size w wr
theorem Taking.few {w : World} {L : List It} {i : Nat} {v : Value} {C : List It} {wr : World} (h : Taking w L i v C wr) : C.length ≤ i := by
  rw [h.is]
  exact Nat.le_trans (List.length_filter_le _ _) (by simp; omega)
theorem Taking.ok {w : World} {L : List It} {i : Nat} {v v0 : Value} {C : List It} {wr : World} (h : Taking w L i v C wr) (hL : ListAt w.heap.size w v0 L) : ∀ e ∈ C, e.Ok wr.heap.size wr := fun e he => by
  rw [h.is] at he
  exact ((hL.ok e (List.mem_of_mem_take (List.mem_filter.1 he).1)).below h.below).mono h.below.size
theorem Taking.list {w : World} {L : List It} {i : Nat} {v v0 : Value} {C : List It} {wr : World} (h : Taking w L i v C wr) (hL : ListAt w.heap.size w v0 L) (hi : i ≤ L.length) : ListAt wr.heap.size wr v C :=
  own_list h.own (by have := h.few; have := hL.short; omega) (h.ok hL)
/-- Cover, while it puts them together, each in its form. -/
structure Uniting (w1 : World) (E : List It) (i : Nat) (v : Value) (C : List It) (wr : World) : Prop where
  own : wr.ownsRow w1.heap.size 28 3 v C.length (flat C)
  is : C.map (·.r) = (Rg.unite ((E.take i).map (·.r))).map Rg.form
  keys : ∀ e ∈ C, NewKey w1.heap.size wr e.v1 e.r.lo ∧ NewKey w1.heap.size wr e.v2 e.r.hi
  below : Below w1.heap.size w1 wr
  few : C.length ≤ i
theorem add_nil (r : Rg) : Rg.add [] r = [r] := rfl
theorem take_map {E : List It} {i : Nat} {x : It} (hx : E[i]? = some x) : (E.take (i + 1)).map (·.r) = (E.take i).map (·.r) ++ [x.r] := take_next hx
theorem Rg.stretch_form {l r : Rg} (hl : l.empty = false) (hr : r.empty = false) (hle : l.lo ≤ r.lo) : (l.stretch r).form = if l.form.all then l.form else if r.all then ⟨l.form.lo, [], true⟩ else if l.form.hi < r.hi then ⟨l.form.lo, r.hi, false⟩ else l.form := by
  have n1 := Rg.nil_le r.hi
  unfold Rg.stretch Rg.form
  unfold Rg.empty at *
  rcases l with ⟨lo, hi, all⟩
  rcases r with ⟨lo', hi', all'⟩
  cases all <;> cases all' <;> simp at * <;> grind
theorem Rg.reach_form {l : Rg} (hl : l.empty = false) (k : Key) : Rg.reach l k = (l.form.all || !decide (l.form.hi < k)) := by
  unfold Rg.reach Rg.form
  unfold Rg.empty at *
  rcases l with ⟨lo, hi, all⟩
  cases all <;> simp at * <;> grind
/-- The last of those that were put together. -/
theorem Uniting.last {w1 wr : World} {E C' : List It} {i : Nat} {v : Value} {l : It} (h : Uniting w1 E i v (C' ++ [l]) wr) (hf : ∀ e ∈ E, e.r.empty = false) (hr : Rises E) : ∃ D d, Rg.unite ((E.take i).map (·.r)) = D ++ [d] ∧ D.map Rg.form = C'.map (·.r) ∧ d.form = l.r ∧ d.empty = false ∧ ∀ x, E[i]? = some x → d.lo ≤ x.r.lo := by
  have his := h.is
  have hinv := Rg.unite_inv ((E.take i).map (·.r)) (fun r hr' => by
    obtain ⟨e, he, rfl⟩ := List.mem_map.1 hr'
    exact hf e (List.mem_of_mem_take he)) (by
    rw [List.pairwise_map]
    exact hr.sublist (List.take_sublist _ _))
  rcases List.eq_nil_or_concat (Rg.unite ((E.take i).map (·.r))) with hD | ⟨D, d, hD⟩
  · rw [hD] at his
    simp at his
  · rw [List.concat_eq_append] at hD
    rw [hD] at his hinv
    simp only [List.map_append, List.map_cons, List.map_nil] at his
    obtain ⟨h1, h2⟩ := List.append_inj' his rfl
    refine ⟨D, d, hD, h1.symm, by simpa using h2.symm, hinv.full d (by simp), fun x hx => ?_⟩
    obtain ⟨y, hy, e⟩ := hinv.los d (by simp)
    obtain ⟨z, hz, rfl⟩ := List.mem_map.1 hy
    rw [e]
    obtain ⟨j, hj, rfl⟩ := List.getElem_of_mem hz
    have hil := (List.getElem?_eq_some_iff.1 hx).1
    rw [List.getElem?_eq_getElem hil] at hx
    cases hx
    rw [List.length_take] at hj
    rw [List.getElem_take]
    exact List.pairwise_iff_getElem.1 hr j i (by omega) hil (by omega)
theorem Uniting.add {w1 wr w' : World} {E C : List It} {i : Nat} {v v' : Value} {x y : It} (h : Uniting w1 E i v C wr) (hx : E[i]? = some x) (hadd : Rg.add (Rg.unite ((E.take i).map (·.r))) x.r = Rg.unite ((E.take i).map (·.r)) ++ [x.r]) (hy : y.r = x.r.form)
    (own : w'.ownsRow w1.heap.size 28 3 v' (C.length + 1) (flat C ++ y.cells)) (hk : ∀ e ∈ C ++ [y], NewKey w1.heap.size w' e.v1 e.r.lo ∧ NewKey w1.heap.size w' e.v2 e.r.hi) (hb : Below w1.heap.size wr w') : Uniting w1 E (i + 1) v' (C ++ [y]) w' := by
  refine ⟨?_, ?_, hk, h.below.trans hb, by have := h.few; simp; omega⟩
  · rw [flat_append, List.length_append]
    simpa [flat] using own
  · rw [take_next hx, Rg.unite_snoc, hadd, List.map_append, List.map_append, h.is]
    simp [hy]
theorem Uniting.put {w1 wr w' : World} {E C' : List It} {i : Nat} {v : Value} {x l y : It} {D : List Rg} {d : Rg} (h : Uniting w1 E i v (C' ++ [l]) wr) (hx : E[i]? = some x) (hD : Rg.unite ((E.take i).map (·.r)) = D ++ [d]) (hD' : D.map Rg.form = C'.map (·.r)) (hre : Rg.reach d x.r.lo = true) (hy : y.r = (d.stretch x.r).form)
    (own : w'.ownsRow w1.heap.size 28 3 v (C'.length + 1) (flat (C' ++ [y]))) (hk : ∀ e ∈ C' ++ [y], NewKey w1.heap.size w' e.v1 e.r.lo ∧ NewKey w1.heap.size w' e.v2 e.r.hi) (hb : Below w1.heap.size wr w') : Uniting w1 E (i + 1) v (C' ++ [y]) w' := by
  refine ⟨by simpa using own, ?_, hk, h.below.trans hb, by have := h.few; simp at *; omega⟩
  rw [take_next hx, Rg.unite_snoc, hD, Rg.add_last, if_pos hre, List.map_append, List.map_append, hD']
  simp [hy]
/-- One cell of a row's range, its Hi. -/
theorem RowAt.put1 {w : World} {g S : Nat} {D : List It} (h : RowAt w g S D) (i : Nat) (e y : It) (hi : D[i]? = some e) (h1 : y.v1 = e.v1) (h3 : y.r.all = e.r.all) : RowAt (w.setCell ⟨g, i * 3 + 1, none⟩ y.v2) g S (D.set i y) := by
  have hf := h.fits
  have hl := (List.getElem?_eq_some_iff.1 hi).1
  obtain ⟨f0, f1, f2⟩ := flat_get D i e hi
  obtain ⟨cur, k1, k2, k3⟩ := h.is
  refine ⟨_, heap_set_same _ k1, by simpa using k2, ?_⟩
  have e0 : (flat D).set (i * 3) y.v1 = flat D := by
    rw [h1]
    obtain ⟨q, hq⟩ := List.getElem?_eq_some_iff.1 f0
    rw [← hq, List.set_getElem_self]
  rw [List.length_set, flat_set D i y hl, e0, h3]
  have e2 : ((flat D).set (i * 3 + 1) y.v2)[i * 3 + 2]? = some (.bool e.r.all) := by
    rw [List.getElem?_set_ne (by omega)]
    exact f2
  obtain ⟨q, hq⟩ := List.getElem?_eq_some_iff.1 e2
  rw [← hq, List.set_getElem_self, ← k3]
  simp [List.take_set]
theorem NewKey.row {base : Nat} {w w' : World} {v : Value} {k : Key} {g S : Nat} {D : List It} (h : NewKey base w v k) (hR : RowAt w g S D) (ho : ∀ q, q ≠ g → w'.heap[q]? = w.heap[q]?) : NewKey base w' v k :=
  ⟨own_same h.1 fun b hb _ => by
    obtain ⟨_, _, cur, hc⟩ := own_type h.1 b hb
    obtain ⟨cur', hc', _⟩ := hR.is
    exact ho b (tag_ne hc hc' (by decide)), h.2⟩
theorem NewKey.grown {base base' : Nat} {w w' : World} {v a : Value} {k : Key} {n : Nat} {xs : List Value} (h : NewKey base w v k) (hg : w.grownBy w' a.ownBlock) (ha : w.ownsRow base' 28 3 a n xs) : NewKey base w' v k :=
  ⟨own_same h.1 fun b hb hl => by
    obtain ⟨_, _, cur, hc⟩ := own_type h.1 b hb
    exact hg.block b hl fun e => by
      obtain ⟨_, _, cur', hc'⟩ := own_type ha b e.symm
      exact tag_ne hc hc' (by decide) rfl, h.2⟩
set_option maxHeartbeats 3200000 in
set_option maxRecDepth 100000 in
theorem refCover_any {w : World} {v : Value} {L : List It} (h : ListAt w.heap.size w v L) :
    Calls Try.prog 11 #[v] w fun e w' => ∃ v' F, e = .returned v' ∧ F.map (·.r) = Rg.cover (L.map (·.r)) ∧ w'.ownsRow w.heap.size 28 3 v' F.length (flat F) ∧ (∀ e ∈ F, NewKey w.heap.size w' e.v1 e.r.lo ∧ NewKey w.heap.size w' e.v2 e.r.hi) ∧ F.length ≤ L.length ∧ Below w.heap.size w w' := by
  obtain ⟨i0, hi, hz0, hz1, hz2⟩ := info36'
  have HL : Hid (ListAt w.heap.size w v L) := h
  have hlen : L.length ≤ 2513169434916 := by have := h.short; omega
  obtain ⟨a, c, rfl, _⟩ := h.is
  clear h
  go_enter Try.func11, Try.ntmps11
  go_wp2
  go_loopw [3, 4, 5] (fun s3 s4 _ wr => ∃ (i : Nat) (C : List It), s4 = .int .i64 i ∧ i ≤ L.length ∧ Taking w L i s3 C wr) (fun _ s4 _ _ => L.length - (intOf s4).toNat)
  case atStart => exact ⟨0, [], rfl, Nat.zero_le _, World.ownsRow_nil _ _ _ _, rfl, Below.refl _ _⟩
  case round =>
    obtain ⟨i, C, rfl, hiL, hgo⟩ := hrel
    have HGO : Hid (Taking w L i u3 C wr) := hgo
    have hfew := hgo.few
    have hs : w.heap.size ≤ wr.heap.size := hgo.below.size
    obtain ⟨a5, c5, rfl⟩ : ∃ a5 c5, u3 = .slice a5 C.length c5 := by
      rcases own_row hgo.own with ⟨rfl, rfl⟩ | ⟨g, cc, rfl, _⟩
      · exact ⟨_, _, rfl⟩
      · exact ⟨_, _, rfl⟩
    clear hgo
    by_cases hlt : i < L.length
    · have hltz : (i : Int) < (L.length : Int) := by omega
      obtain ⟨x, hx⟩ : ∃ x, L[i]? = some x := ⟨_, List.getElem?_eq_getElem hlt⟩
      have HX : Hid (L[i]? = some x) := hx
      obtain ⟨g1, off1, rfl, hg1, x0, x1, x2⟩ := (HL.out.below HGO.out.below).at3 i x hx
      have HXO : Hid (x.Ok w.heap.size wr) := (HL.out.ok x (List.mem_of_getElem? hx)).below HGO.out.below
      obtain ⟨y1, y2, r⟩ := x
      obtain ⟨p1, q1, e1⟩ := HXO.out.lo.form
      obtain ⟨p2, q2, e2⟩ := HXO.out.hi.form
      simp only at e1 e2 x0 x1 x2
      subst e1 e2
      clear hx
      have HEM := refEmpty_any (w := wr) (r := r) ⟨_, _, rfl, HXO.out.lo.at hs, HXO.out.hi.at hs⟩
      go_wp2_with fail
      refine HEM.mono ?_
      rintro e w3 ⟨rfl, hb3⟩
      have HBW : Hid (Below wr.heap.size wr w3) := hb3
      obtain ⟨_, _, e9, _, x0', x1', x2'⟩ := ((HL.out.below HGO.out.below).below (hb3.mono hs)).at3 i _ HX.out
      cases e9
      simp only at x0' x1' x2'
      clear hb3 HEM x0 x1 x2
      cases he : r.empty with
      | true =>
        have HE : Hid (r.empty = true) := he
        clear he
        go_wp2
        refine ⟨⟨i + 1, C, by go_num, by omega, own_same HGO.out.own fun b _ hl => HBW.out.block b hl, ?_, HGO.out.below.trans (HBW.out.mono hs)⟩, by simp [intOf]; omega⟩
        rw [HGO.out.is, List.take_add_one, HX.out]
        simp [HE.out]
      | false =>
        have HE : Hid (r.empty = false) := he
        clear he
        have hs3 : wr.heap.size ≤ w3.heap.size := HBW.out.size
        have HOA : Hid (∀ o : Obj, (w3.alloc o).ownsRow w.heap.size 28 3 (.slice a5 C.length c5) C.length (flat C)) := fun o => by
          have hb : Below wr.heap.size wr (w3.alloc o) := HBW.out.alloc HBW.out.size o
          exact own_same HGO.out.own fun b _ hl => hb.block b hl
        have HON : Hid _ := slice_one3 HXO.out
        go_wp2_with (at_builtin
                     refine wpList_append_own _ rfl _ _ 32 rfl w.heap.size 28 i0 (.agg #[.slice none 0 0, .slice none 0 0, .bool false]) 3 56 Try.underlying32 hi hz0 hz1 hz2 rfl (by decide) _ C.length (flat C) rfl (HOA.out _) ⟨w3.heap.size, 0, none⟩ 1 1 (It.cells ⟨.slice p1 r.lo.length q1, .slice p2 r.hi.length q2, r⟩) rfl rfl (one_cell w3 ⟨.slice p1 r.lo.length q1, .slice p2 r.hi.length q2, r⟩) HON.out (by unfold maxLen; omega) (by omega) (by simp; omega) ?_
                     intro v' w' hown hgr hiff
                     have HOW : Hid (w'.ownsRow w.heap.size 28 3 v' (C.length + 1) (flat C ++ It.cells ⟨.slice p1 r.lo.length q1, .slice p2 r.hi.length q2, r⟩)) := hown
                     have HGR : Hid _ := hgr
                     clear hown hgr hiff)
        have hb : Below wr.heap.size wr (w3.alloc (.cells #[.slice p1 r.lo.length q1, .slice p2 r.hi.length q2, .bool r.all] 28)) := HBW.out.alloc HBW.out.size _
        have hb' : Below w.heap.size wr w' := (hb.mono hs).grown HGR.out (Nat.le_trans hs hb.size) (fun k hk => (own_type HGO.out.own k hk).2.1)
        refine ⟨⟨i + 1, C ++ [⟨.slice p1 r.lo.length q1, .slice p2 r.hi.length q2, r⟩], by go_num, by omega, ?_, ?_, HGO.out.below.trans hb'⟩, by simp [intOf]; omega⟩
        · rw [flat_append, List.length_append]
          simpa [flat] using HOW.out
        · rw [List.take_add_one, HX.out, List.filter_append, ← HGO.out.is]
          simp [HE.out]
    · have hiL' : i = L.length := by omega
      have hltz : ¬ (i : Int) < (L.length : Int) := by omega
      have HC : Hid (C = L.filter fun x => !x.r.empty) := by rw [Hid, HGO.out.is, hiL', List.take_length]
      have HBL := refByLo_any C.length wr _ C rfl (HGO.out.list HL.out hiL)
      have HB0 : Hid (Below w.heap.size w wr) := HGO.out.below
      clear hiL'
      go_wp2_with fail
      refine HBL.mono ?_
      rintro e w1 ⟨vE, E, rfl, hE, pE, rE, hb1⟩
      have HE : Hid (ListAt w1.heap.size w1 vE E) := hE
      have PE : Hid (E.Perm (L.filter fun x => !x.r.empty)) := by rw [Hid, ← HC.out]; exact pE
      have RE : Hid (Rises E) := rE
      have HB1 : Hid (Below w.heap.size w w1) := HB0.out.trans (hb1.mono hs)
      have FE : Hid (∀ e ∈ E, e.r.empty = false) := fun e he => by simpa using (List.mem_filter.1 (PE.out.mem_iff.1 he)).2
      have hEL : E.length ≤ L.length := by rw [PE.out.length_eq]; exact List.length_filter_le _ _
      obtain ⟨a3, c3, rfl, _⟩ := hE.is
      clear hE pE rE hb1 HBL HGO HC hfew hs hlt hltz
      go_wp2
      go_loopw [6, 7, 8, 9, 10] (fun s6 s7 _ _ _ wr => ∃ (i : Nat) (C : List It), s7 = .int .i64 i ∧ i ≤ E.length ∧ Uniting w1 E i s6 C wr) (fun _ s7 _ _ _ _ => E.length - (intOf s7).toNat)
      case atStart => exact ⟨0, [], rfl, Nat.zero_le _, World.ownsRow_nil _ _ _ _, rfl, fun e he => by simp at he, Below.refl _ _, Nat.le_refl _⟩
      case round =>
        obtain ⟨i, C, rfl, hiE, hgo⟩ := hrel
        have HGO : Hid (Uniting w1 E i u6 C wr) := hgo
        have hfew := hgo.few
        have hs1 : w1.heap.size ≤ wr.heap.size := hgo.below.size
        obtain ⟨a5, c5, rfl⟩ : ∃ a5 c5, u6 = .slice a5 C.length c5 := by
          rcases own_row hgo.own with ⟨rfl, rfl⟩ | ⟨g, cc, rfl, _⟩
          · exact ⟨_, _, rfl⟩
          · exact ⟨_, _, rfl⟩
        have HOWN2 : Hid (∀ (W : World), Below wr.heap.size wr W → ∀ o : Obj, (W.alloc o).ownsRow w1.heap.size 28 3 (.slice a5 C.length c5) C.length (flat C)) := by
          intro W hW o
          have hb : Below wr.heap.size wr (W.alloc o) := hW.alloc hW.size o
          exact own_same HGO.out.own fun b _ hl => hb.block b hl
        have HGROW : Hid (∀ (W : World) (o : Obj) (w' : World), Below wr.heap.size wr W → (W.alloc o).grownBy w' (Value.slice a5 C.length c5).ownBlock → Below w1.heap.size wr w') := by
          intro W o w' hW hg
          have hb : Below wr.heap.size wr (W.alloc o) := hW.alloc hW.size o
          exact (hb.mono hs1).grown hg (Nat.le_trans hs1 hb.size) (fun k hk => (own_type HGO.out.own k hk).2.1)
        clear hgo
        by_cases hlt : i < E.length
        · have hltz : (i : Int) < (E.length : Int) := by omega
          obtain ⟨x, hx⟩ : ∃ x, E[i]? = some x := ⟨_, List.getElem?_eq_getElem hlt⟩
          have HX : Hid (E[i]? = some x) := hx
          obtain ⟨g3, off3, rfl, hg3, x0, x1, x2⟩ := (HE.out.below HGO.out.below).at3 i x hx
          have HXO : Hid (x.Ok w1.heap.size wr) := (HE.out.ok x (List.mem_of_getElem? hx)).below HGO.out.below
          have HXE : Hid (x.r.empty = false) := FE.out x (List.mem_of_getElem? hx)
          obtain ⟨y1, y2, r⟩ := x
          obtain ⟨p1, q1, e1⟩ := HXO.out.lo.form
          obtain ⟨p2, q2, e2⟩ := HXO.out.hi.form
          simp only at e1 e2 x0 x1 x2
          subst e1 e2
          clear hx
          have HBW : Hid (Below wr.heap.size wr wr) := Below.refl _ _
          rcases List.eq_nil_or_concat C with hC | ⟨C', l, hC⟩
          · have hn0 : (C.length : Int) = 0 := by rw [hC]; rfl
            have HADD : Hid (Rg.add (Rg.unite ((E.take i).map (·.r))) r = Rg.unite ((E.take i).map (·.r)) ++ [r]) := by
              have := HGO.out.is
              rw [hC] at this
              simp only [List.map_nil] at this
              rw [Hid, List.map_eq_nil_iff.1 this.symm]
              rfl
            clear hC
            have HFO := refForm_any (w := wr) (r := r) ⟨_, _, rfl, ((HXO.out.lo.at hs1).here HBW.out), ((HXO.out.hi.at hs1).here HBW.out)⟩
            go_wp2_with (first
              | (at_builtin
                 refine wpList_append_own _ rfl _ _ 32 rfl w1.heap.size 28 i0 (.agg #[.slice none 0 0, .slice none 0 0, .bool false]) 3 56 Try.underlying32 hi hz0 hz1 hz2 rfl (by decide) _ C.length (flat C) rfl (HOWN2.out w5 HBF.out _) ⟨w5.heap.size, 0, none⟩ 1 1 (It.cells ⟨.slice m1 r.form.lo.length m2, .slice m3 r.form.hi.length m4, r.form⟩) rfl rfl (one_cell w5 ⟨.slice m1 r.form.lo.length m2, .slice m3 r.form.hi.length m4, r.form⟩) HONE.out (by unfold maxLen; omega) (by omega) (by simp; omega) ?_
                 intro v' w' hown hgr hiff
                 have HOW : Hid (w'.ownsRow w1.heap.size 28 3 v' (C.length + 1) (flat C ++ It.cells ⟨.slice m1 r.form.lo.length m2, .slice m3 r.form.hi.length m4, r.form⟩)) := hown
                 have HGR : Hid _ := hgr
                 clear hown hgr hiff)
              | (go_at_call 34; refine Calls.mono HFO ?_
                 rintro e w5 ⟨f, rfl, hf, hb5⟩
                 obtain ⟨m1, m2, m3, m4, rfl⟩ := hf.slices
                 have HF : Hid _ := hf
                 have HBF : Hid (Below wr.heap.size wr w5) := HBW.out.trans (hb5.mono HBW.out.size)
                 have hs5 : w1.heap.size ≤ w5.heap.size := Nat.le_trans hs1 HBF.out.size
                 have HONE : Hid (∀ u ∈ It.cells ⟨.slice m1 r.form.lo.length m2, .slice m3 r.form.hi.length m4, r.form⟩, u.oneCell' = true) := fun u hu => by
                   simp only [It.cells, List.mem_cons, List.not_mem_nil, or_false] at hu
                   rcases hu with rfl | rfl | rfl <;> rfl
                 clear hf hb5))
            have hb' : Below w1.heap.size wr w' := HGROW.out w5 _ w' HBF.out HGR.out
            refine ⟨⟨i + 1, C ++ [⟨.slice m1 r.form.lo.length m2, .slice m3 r.form.hi.length m4, r.form⟩], by go_num, by omega, HGO.out.add HX.out HADD.out rfl HOW.out (fun e he => ?_) hb'⟩, by simp [intOf]; omega⟩
            have hown5 := HOWN2.out w5 HBF.out (.cells #[.slice m1 r.form.lo.length m2, .slice m3 r.form.hi.length m4, .bool r.form.all] 28)
            rcases List.mem_append.1 he with h' | h'
            · have hk := HGO.out.keys e h'
              exact ⟨(hk.1.here (HBF.out.alloc HBF.out.size _)).grown HGR.out hown5, (hk.2.here (HBF.out.alloc HBF.out.size _)).grown HGR.out hown5⟩
            · simp only [List.mem_cons, List.not_mem_nil, or_false] at h'
              rw [h']
              obtain ⟨_, _, e9, n1, n2, _⟩ := HF.out.is
              cases e9
              exact ⟨((n1.mono (Nat.le_trans hs1 HBW.out.size)).here (below_new _ _)).grown HGR.out hown5, ((n2.mono (Nat.le_trans hs1 HBW.out.size)).here (below_new _ _)).grown HGR.out hown5⟩
          · rw [List.concat_eq_append] at hC
            obtain ⟨n, hnC⟩ : ∃ n, C'.length = n := ⟨_, rfl⟩
            have hCl : C.length = n + 1 := by rw [hC]; simp [hnC]
            have hn1 : (C.length : Int) - 1 = (n : Int) := by omega
            have hn2 : (n : Int) < (C.length : Int) := by omega
            have HC : Hid (C = C' ++ [l]) := hC
            have HCL : Hid (C.length = n + 1) := hCl
            have hl : C[n]? = some l := by rw [hC, ← hnC]; simp
            obtain ⟨D, d, hD1, hD2, hD3, hD4, hD5⟩ := Uniting.last (by rw [← hC]; exact HGO.out) FE.out RE.out
            have HD1 : Hid _ := hD1
            have HD2 : Hid _ := hD2
            have HD3 : Hid _ := hD3
            have HD4 : Hid _ := hD4
            have HD5 : Hid _ := hD5 _ HX.out
            have HKC : Hid (∀ e ∈ C' ++ [l], NewKey w1.heap.size wr e.v1 e.r.lo ∧ NewKey w1.heap.size wr e.v2 e.r.hi) := by rw [← hC]; exact HGO.out.keys
            obtain ⟨gc, rfl, hgcb, hcm, hcrow⟩ : ∃ g, a5 = some ⟨g, 0, none⟩ ∧ w1.heap.size ≤ g ∧ c5 ≤ maxLen ∧ RowAt wr g (c5 * 3) C := by
              rcases own_row HGO.out.own with ⟨_, h⟩ | ⟨g, cc, e, hb, _, hm, h⟩
              · rw [h] at hC; simp at hC
              · cases e; exact ⟨g, rfl, hb, hm, h⟩
            have HCROW : Hid (RowAt wr gc (c5 * 3) C) := hcrow
            obtain ⟨l1, l2, lr⟩ := l
            have HLK : Hid (NewKey w1.heap.size wr l1 lr.lo ∧ NewKey w1.heap.size wr l2 lr.hi) := HKC.out ⟨l1, l2, lr⟩ (List.mem_append_right _ (List.mem_singleton_self _))
            obtain ⟨b1, d1, e1, _⟩ := HLK.out.1.at.is
            obtain ⟨b2, d2, e2, _⟩ := HLK.out.2.at.is
            subst e1 e2
            have HLN : Hid (C[n]? = some ⟨.slice b1 lr.lo.length d1, .slice b2 lr.hi.length d2, lr⟩) := hl
            obtain ⟨z0, z1, z2⟩ := hcrow.cells n _ hl
            simp only at z0 z1 z2
            clear hC hCl hcrow hl hD1 hD2 hD3 hD4 hD5
            have HNC : Hid (C'.length = n) := hnC
            clear hnC
            have HBD : Hid (Below wr.heap.size wr wr.drew) := (Below.refl _ wr).drew
            have HLT : Hid _ := refLess_key (HLK.out.2.at.here HBD.out) ((HXO.out.lo.at hs1).here HBD.out)
            simp only at HLT
            go_wp2_with fail
            go_region_held_law (fun W' => W'.cell? ⟨gc, n * 3 + 1, none⟩ = some (.slice b2 lr.hi.length d2) ∧ W'.cell? ⟨g3, off3 + i * 3, none⟩ = some (.slice p1 r.lo.length q1)) (first | (refine ⟨?_, ?_⟩ <;> with_reducible assumption) | (go_keep; done))
              (first
                | (go_at_call 29; refine Calls.mono HLT.out ?_
                   rintro e w3 ⟨rfl, q, hw3⟩
                   have HBW : Hid (Below wr.heap.size wr w3) := by rw [hw3]; exact below_draws HBD.out q
                   clear hw3
                   obtain ⟨_, _, e9, _, x0', x1', x2'⟩ := ((HE.out.below HGO.out.below).below (HBW.out.mono hs1)).at3 i _ HX.out
                   cases e9
                   obtain ⟨z0', z1', z2'⟩ := (HCROW.out.here HBW.out).cells n _ HLN.out
                   simp only at x0' x1' x2' z0' z1' z2'))
            clear x0 x1 x2 z0 z1 z2 HLT HBD
            have hs3 : wr.heap.size ≤ w3.heap.size := HBW.out.size
            cases hla : lr.all with
            | true =>
              rw [hla] at z2'
              have HRE : Hid (Rg.reach d r.lo = true) := by rw [Hid, Rg.reach_form HD4.out, HD3.out, hla]; rfl
              have HLA : Hid (lr.all = true) := hla
              have HY : Hid (lr = (d.stretch r).form) := by rw [Hid, Rg.stretch_form HD4.out HXE.out HD5.out, HD3.out]; simp [hla]
              clear hla
              have HBD : Hid (Below wr.heap.size wr w3.drew) := HBW.out.drew
              have HLT : Hid _ := refLess_key (HLK.out.2.at.here HBD.out) ((HXO.out.hi.at hs1).here HBD.out)
              simp only at HLT
              go_wp2_with fail
              go_region_held_law (fun W' => W'.cell? ⟨gc, n * 3 + 1, none⟩ = some (.slice b2 lr.hi.length d2) ∧ W'.cell? ⟨g3, off3 + i * 3 + 1, none⟩ = some (.slice p2 r.hi.length q2)) (first | (refine ⟨?_, ?_⟩ <;> with_reducible assumption) | (go_keep; done))
                (first
                  | (go_at_call 29; refine Calls.mono HLT.out ?_
                     rintro e w4 ⟨rfl, q, hw3⟩
                     have HBW : Hid (Below wr.heap.size wr w4) := by rw [hw3]; exact below_draws HBD.out q
                     clear hw3
                     obtain ⟨_, _, e9, _, x0b, x1b, x2b⟩ := ((HE.out.below HGO.out.below).below (HBW.out.mono hs1)).at3 i _ HX.out
                     cases e9
                     obtain ⟨z0b, z1b, z2b⟩ := (HCROW.out.here HBW.out).cells n _ HLN.out
                     simp only at x0b x1b x2b z0b z1b z2b))
              rw [HLA.out] at z2b
              clear x0' x1' x2' z0' z1' z2' HLT HBD
              cases hra : r.all
              all_goals
                rw [hra] at x2b
                clear hra
                go_wp2
                have hC := HC.out
                subst hC
                exact ⟨⟨i + 1, C' ++ [⟨.slice b1 lr.lo.length d1, .slice b2 lr.hi.length d2, lr⟩], by go_num, by omega, HGO.out.put HX.out HD1.out HD2.out HRE.out HY.out (by simpa using own_same HGO.out.own (fun b _ hl => HBW.out.block b hl)) (fun e he => ⟨(HKC.out e he).1.here HBW.out, (HKC.out e he).2.here HBW.out⟩) (HBW.out.mono hs1)⟩, by simp [intOf]; omega⟩
            | false =>
              rw [hla] at z2'
              have HLA : Hid (lr.all = false) := hla
              by_cases hap : lr.hi < r.lo
              · have hdec : decide (lr.hi < r.lo) = true := decide_eq_true hap
                have HADD : Hid (Rg.add (Rg.unite ((E.take i).map (·.r))) r = Rg.unite ((E.take i).map (·.r)) ++ [r]) := by
                  rw [Hid, HD1.out, Rg.add_last, if_neg]
                  rw [Rg.reach_form HD4.out, HD3.out, hla, hdec]
                  simp
                clear hla hap
                have HFO := refForm_any (w := w3) (r := r) ⟨_, _, rfl, ((HXO.out.lo.at hs1).here HBW.out), ((HXO.out.hi.at hs1).here HBW.out)⟩
                go_wp2_with (first
                  | (at_builtin
                     refine wpList_append_own _ rfl _ _ 32 rfl w1.heap.size 28 i0 (.agg #[.slice none 0 0, .slice none 0 0, .bool false]) 3 56 Try.underlying32 hi hz0 hz1 hz2 rfl (by decide) _ C.length (flat C) rfl (HOWN2.out w5 HBF.out _) ⟨w5.heap.size, 0, none⟩ 1 1 (It.cells ⟨.slice m1 r.form.lo.length m2, .slice m3 r.form.hi.length m4, r.form⟩) rfl rfl (one_cell w5 ⟨.slice m1 r.form.lo.length m2, .slice m3 r.form.hi.length m4, r.form⟩) HONE.out (by unfold maxLen; omega) (by omega) (by simp; omega) ?_
                     intro v' w' hown hgr hiff
                     have HOW : Hid (w'.ownsRow w1.heap.size 28 3 v' (C.length + 1) (flat C ++ It.cells ⟨.slice m1 r.form.lo.length m2, .slice m3 r.form.hi.length m4, r.form⟩)) := hown
                     have HGR : Hid _ := hgr
                     clear hown hgr hiff)
                  | (go_at_call 34; refine Calls.mono HFO ?_
                     rintro e w5 ⟨f, rfl, hf, hb5⟩
                     obtain ⟨m1, m2, m3, m4, rfl⟩ := hf.slices
                     have HF : Hid _ := hf
                     have HBF : Hid (Below wr.heap.size wr w5) := HBW.out.trans (hb5.mono HBW.out.size)
                     have hs5 : w1.heap.size ≤ w5.heap.size := Nat.le_trans hs1 HBF.out.size
                     have HONE : Hid (∀ u ∈ It.cells ⟨.slice m1 r.form.lo.length m2, .slice m3 r.form.hi.length m4, r.form⟩, u.oneCell' = true) := fun u hu => by
                       simp only [It.cells, List.mem_cons, List.not_mem_nil, or_false] at hu
                       rcases hu with rfl | rfl | rfl <;> rfl
                     clear hf hb5))
                have hb' : Below w1.heap.size wr w' := HGROW.out w5 _ w' HBF.out HGR.out
                refine ⟨⟨i + 1, C ++ [⟨.slice m1 r.form.lo.length m2, .slice m3 r.form.hi.length m4, r.form⟩], by go_num, by omega, HGO.out.add HX.out HADD.out rfl HOW.out (fun e he => ?_) hb'⟩, by simp [intOf]; omega⟩
                have hown5 := HOWN2.out w5 HBF.out (.cells #[.slice m1 r.form.lo.length m2, .slice m3 r.form.hi.length m4, .bool r.form.all] 28)
                rcases List.mem_append.1 he with h' | h'
                · have hk := HGO.out.keys e h'
                  exact ⟨(hk.1.here (HBF.out.alloc HBF.out.size _)).grown HGR.out hown5, (hk.2.here (HBF.out.alloc HBF.out.size _)).grown HGR.out hown5⟩
                · simp only [List.mem_cons, List.not_mem_nil, or_false] at h'
                  rw [h']
                  obtain ⟨_, _, e9, n1, n2, _⟩ := HF.out.is
                  cases e9
                  exact ⟨((n1.mono (Nat.le_trans hs1 HBW.out.size)).here (below_new _ _)).grown HGR.out hown5, ((n2.mono (Nat.le_trans hs1 HBW.out.size)).here (below_new _ _)).grown HGR.out hown5⟩
              · have hdec : decide (lr.hi < r.lo) = false := decide_eq_false hap
                have HRE : Hid (Rg.reach d r.lo = true) := by rw [Hid, Rg.reach_form HD4.out, HD3.out, hdec]; simp
                clear hla hap
                have HBD : Hid (Below wr.heap.size wr w3.drew) := HBW.out.drew
                have HLT : Hid _ := refLess_key (HLK.out.2.at.here HBD.out) ((HXO.out.hi.at hs1).here HBD.out)
                simp only at HLT
                go_wp2_with fail
                go_region_held_law (fun W' => W'.cell? ⟨gc, n * 3 + 1, none⟩ = some (.slice b2 lr.hi.length d2) ∧ W'.cell? ⟨g3, off3 + i * 3 + 1, none⟩ = some (.slice p2 r.hi.length q2)) (first | (refine ⟨?_, ?_⟩ <;> with_reducible assumption) | (go_keep; done))
                  (first
                    | (go_at_call 29; refine Calls.mono HLT.out ?_
                       rintro e w4 ⟨rfl, q, hw3⟩
                       have HBW : Hid (Below wr.heap.size wr w4) := by rw [hw3]; exact below_draws HBD.out q
                       clear hw3
                       obtain ⟨_, _, e9, _, x0b, x1b, x2b⟩ := ((HE.out.below HGO.out.below).below (HBW.out.mono hs1)).at3 i _ HX.out
                       cases e9
                       obtain ⟨z0b, z1b, z2b⟩ := (HCROW.out.here HBW.out).cells n _ HLN.out
                       simp only at x0b x1b x2b z0b z1b z2b))
                rw [HLA.out] at z2b
                clear x0' x1' x2' z0' z1' z2' HLT HBD
                cases hra : r.all with
                | true =>
                  rw [hra] at x2b
                  have HY : Hid ((⟨lr.lo, [], true⟩ : Rg) = (d.stretch r).form) := by rw [Hid, Rg.stretch_form HD4.out HXE.out HD5.out, HD3.out]; simp [HLA.out, hra]
                  have HR4 : Hid (RowAt w4 gc (c5 * 3) C) := HCROW.out.here HBW.out
                  have o0 := HR4.out.open (n * 3)
                  have o1 := HR4.out.open (n * 3 + 1)
                  have o2 := HR4.out.open (n * 3 + 2)
                  clear hra
                  go_wp2
                  have hnC := HNC.out
                  have hC := HC.out
                  subst hC
                  have hset : (C' ++ [(⟨.slice b1 lr.lo.length d1, .slice b2 lr.hi.length d2, lr⟩ : It)]).set n ⟨.slice b1 lr.lo.length d1, .slice none 0 0, ⟨lr.lo, [], true⟩⟩ = C' ++ [⟨.slice b1 lr.lo.length d1, .slice none 0 0, ⟨lr.lo, [], true⟩⟩] := by rw [← hnC]; simp
                  have hput := (HR4.out.put n ⟨.slice b1 lr.lo.length d1, .slice none 0 0, ⟨lr.lo, [], true⟩⟩ (by simp; omega)).own hgcb hcm
                  rw [hset] at hput
                  have hown : (putAt w4 gc n ⟨.slice b1 lr.lo.length d1, .slice none 0 0, ⟨lr.lo, [], true⟩⟩).ownsRow w1.heap.size 28 3 (.slice (some ⟨gc, 0, none⟩) (C' ++ [(⟨.slice b1 lr.lo.length d1, .slice b2 lr.hi.length d2, lr⟩ : It)]).length c5) (C'.length + 1) (flat (C' ++ [⟨.slice b1 lr.lo.length d1, .slice none 0 0, ⟨lr.lo, [], true⟩⟩])) := by simpa using hput
                  have hkey : ∀ e ∈ C' ++ [(⟨.slice b1 lr.lo.length d1, .slice none 0 0, ⟨lr.lo, [], true⟩⟩ : It)], NewKey w1.heap.size (putAt w4 gc n ⟨.slice b1 lr.lo.length d1, .slice none 0 0, ⟨lr.lo, [], true⟩⟩) e.v1 e.r.lo ∧ NewKey w1.heap.size (putAt w4 gc n ⟨.slice b1 lr.lo.length d1, .slice none 0 0, ⟨lr.lo, [], true⟩⟩) e.v2 e.r.hi := fun e he => by
                    rcases List.mem_append.1 he with h' | h'
                    · have hk := HKC.out e (List.mem_append_left _ h')
                      exact ⟨(hk.1.here HBW.out).putAt HR4.out, (hk.2.here HBW.out).putAt HR4.out⟩
                    · simp only [List.mem_cons, List.not_mem_nil, or_false] at h'
                      rw [h']
                      exact ⟨(HLK.out.1.here HBW.out).putAt HR4.out, NewKey.nil _ _⟩
                  have hgo3 := HGO.out.put HX.out HD1.out HD2.out HRE.out HY.out hown hkey (putAt_below (HBW.out.mono hs1) hgcb)
                  exact ⟨⟨i + 1, _, by go_num, by omega, hgo3⟩, by simp [intOf]; omega⟩
                | false =>
                  rw [hra] at x2b
                  by_cases hmo : lr.hi < r.hi
                  · have hdec2 : decide (lr.hi < r.hi) = true := decide_eq_true hmo
                    have HY : Hid ((⟨lr.lo, r.hi, false⟩ : Rg) = (d.stretch r).form) := by rw [Hid, Rg.stretch_form HD4.out HXE.out HD5.out, HD3.out]; simp [HLA.out, hra, hmo]
                    have HCP := refCopy_any ((HXO.out.hi.at hs1).here HBW.out)
                    simp only at HCP
                    clear hra hmo
                    go_wp2_with (go_at_call 33; refine Calls.mono HCP ?_
                                 rintro e w5 ⟨cu, rfl, hcu, hb5⟩
                                 obtain ⟨m1, m2, e9, _⟩ := hcu.at.is
                                 subst e9
                                 have HCU : Hid (NewKey w4.heap.size w5 (.slice m1 r.hi.length m2) r.hi) := hcu
                                 have HBF : Hid (Below wr.heap.size wr w5) := HBW.out.trans (hb5.mono HBW.out.size)
                                 have HR5 : Hid (RowAt w5 gc (c5 * 3) C) := HCROW.out.here HBF.out
                                 obtain ⟨z0c, z1c, z2c⟩ := HR5.out.cells n _ HLN.out
                                 simp only at z0c z1c z2c
                                 have o1 := HR5.out.open (n * 3 + 1)
                                 clear hcu hb5)
                    have hnC := HNC.out
                    have hC := HC.out
                    subst hC
                    have hset : (C' ++ [(⟨.slice b1 lr.lo.length d1, .slice b2 lr.hi.length d2, lr⟩ : It)]).set n ⟨.slice b1 lr.lo.length d1, .slice m1 r.hi.length m2, ⟨lr.lo, r.hi, false⟩⟩ = C' ++ [⟨.slice b1 lr.lo.length d1, .slice m1 r.hi.length m2, ⟨lr.lo, r.hi, false⟩⟩] := by rw [← hnC]; simp
                    have hput := (HR5.out.put1 n _ ⟨.slice b1 lr.lo.length d1, .slice m1 r.hi.length m2, ⟨lr.lo, r.hi, false⟩⟩ HLN.out rfl HLA.out.symm).own hgcb hcm
                    rw [hset] at hput
                    have hown : (w5.setCell ⟨gc, n * 3 + 1, none⟩ (.slice m1 r.hi.length m2)).ownsRow w1.heap.size 28 3 (.slice (some ⟨gc, 0, none⟩) (C' ++ [(⟨.slice b1 lr.lo.length d1, .slice b2 lr.hi.length d2, lr⟩ : It)]).length c5) (C'.length + 1) (flat (C' ++ [⟨.slice b1 lr.lo.length d1, .slice m1 r.hi.length m2, ⟨lr.lo, r.hi, false⟩⟩])) := by simpa using hput
                    have hkey : ∀ e ∈ C' ++ [(⟨.slice b1 lr.lo.length d1, .slice m1 r.hi.length m2, ⟨lr.lo, r.hi, false⟩⟩ : It)], NewKey w1.heap.size (w5.setCell ⟨gc, n * 3 + 1, none⟩ (.slice m1 r.hi.length m2)) e.v1 e.r.lo ∧ NewKey w1.heap.size (w5.setCell ⟨gc, n * 3 + 1, none⟩ (.slice m1 r.hi.length m2)) e.v2 e.r.hi := fun e he => by
                      rcases List.mem_append.1 he with h' | h'
                      · have hk := HKC.out e (List.mem_append_left _ h')
                        exact ⟨(hk.1.here HBF.out).row HR5.out fun q hq => heap_set_other _ hq, (hk.2.here HBF.out).row HR5.out fun q hq => heap_set_other _ hq⟩
                      · simp only [List.mem_cons, List.not_mem_nil, or_false] at h'
                        rw [h']
                        exact ⟨(HLK.out.1.here HBF.out).row HR5.out fun q hq => heap_set_other _ hq, (HCU.out.mono (Nat.le_trans hs1 HBW.out.size)).row HR5.out fun q hq => heap_set_other _ hq⟩
                    have hgo3 := HGO.out.put HX.out HD1.out HD2.out HRE.out HY.out hown hkey ((HBF.out.mono hs1).setCell hgcb _)
                    exact ⟨⟨i + 1, _, by go_num, by omega, hgo3⟩, by simp [intOf]; omega⟩
                  · have hdec2 : decide (lr.hi < r.hi) = false := decide_eq_false hmo
                    have HY : Hid (lr = (d.stretch r).form) := by rw [Hid, Rg.stretch_form HD4.out HXE.out HD5.out, HD3.out]; simp [HLA.out, hra, hmo]
                    clear hra hmo
                    go_wp2
                    have hC := HC.out
                    subst hC
                    exact ⟨⟨i + 1, C' ++ [⟨.slice b1 lr.lo.length d1, .slice b2 lr.hi.length d2, lr⟩], by go_num, by omega, HGO.out.put HX.out HD1.out HD2.out HRE.out HY.out (by simpa using own_same HGO.out.own (fun b _ hl => HBW.out.block b hl)) (fun e he => ⟨(HKC.out e he).1.here HBW.out, (HKC.out e he).2.here HBW.out⟩) (HBW.out.mono hs1)⟩, by simp [intOf]; omega⟩
        · have hiE' : i = E.length := by omega
          have hltz : ¬ (i : Int) < (E.length : Int) := by omega
          have HIS : Hid (C.map (·.r) = Rg.cover (L.map (·.r))) := by
            have h1 := HGO.out.is
            rw [hiE', List.take_length] at h1
            rw [Hid, h1]
            exact Rg.unite_cover _ _ (by rw [List.filter_map]; exact PE.out.map _) (by rw [List.pairwise_map]; exact RE.out)
          clear hiE'
          go_wp2
          go_ret
          refine ⟨_, rfl, C, HIS.out, ?_, fun e he => ?_, ?_, HB1.out.trans (HGO.out.below.mono HB1.out.size)⟩
          · exact own_mono HGO.out.own HB1.out.size
          · exact ⟨(HGO.out.keys e he).1.mono HB1.out.size, (HGO.out.keys e he).2.mono HB1.out.size⟩
          · omega
end Go.Proofs.Ytaehchijeinloab
