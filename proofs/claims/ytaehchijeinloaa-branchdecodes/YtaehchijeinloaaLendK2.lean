/- lend: the walk. -/
import Derived.Test.YtaehchijeinloaaLendK1
namespace Go.Proofs.Ytaehchijeinloaa
open Go.RowKit

set_option maxHeartbeats 1600000 in
set_option maxRecDepth 100000 in
theorem lend_any {w : World} {v : Value} {ps : List Int} {L : List Kc} (h : KidsAt w.heap.size w v ps L) (hw : ps.length + weightL L ≤ 2147483647) :
    Calls Try.prog 11 #[v] w fun e w' => ∃ b vq F, e = .returned (.pointer (some ⟨b, 0, none⟩)) ∧ LoanAt w.heap.size w' b vq ps F ∧ F.map Lk.k = keysOf L ∧ Below w.heap.size w w' := by
  obtain ⟨i3, hi3, hz30, hz31, hz32⟩ := infoI'
  obtain ⟨i5, hi5, hz50, hz51, hz52⟩ := info5'
  obtain ⟨i7, hi7, hz70, hz71, hz72⟩ := infoB'
  have hsz5 : (Try.prog.info? 5).map (·.size) = some 1 := by rw [hi5]; simp [hz51]
  have hsz3 := sizeI
  have hcv := const_any
  obtain ⟨vp, vk, rfl, h1, h2⟩ := h.is
  obtain ⟨a1, c1, rfl⟩ := h1.form
  obtain ⟨a2, c2, rfl⟩ := h2.form
  have HP : Hid (IntsAt w.heap.size w (.slice a1 ps.length c1) ps) := h1
  have HK : Hid (KeysAt w.heap.size w (.slice a2 L.length c2) L) := h2
  have HWT : Hid (ps.length + weightL L ≤ 2147483647) := hw
  have hpl : ps.length ≤ 2147483647 := by omega
  have hll : L.length ≤ 2147483647 := by have := weightL_length L; omega
  clear h h1 h2 hw
  obtain ⟨W1, hW1⟩ : ∃ W1, W1 = w.alloc (.cells #[.slice a1 ps.length c1, .slice a2 L.length c2] 26) := ⟨_, rfl⟩
  have HBW : Hid (Below w.heap.size w W1) := by rw [hW1]; exact below_new _ _
  have HX1 : Hid (KBox W1 w.heap.size (.slice a1 ps.length c1) (.slice a2 L.length c2)) := by rw [hW1]; exact KBox.new w _ _
  have hs1 : W1.heap.size = w.heap.size + 1 := by rw [hW1]; simp
  have HWA : Hid (w.alloc (.cells #[.slice a1 ps.length c1, .slice a2 L.length c2] 26) = W1) := hW1.symm
  obtain ⟨k0, k1⟩ := HX1.out.cells
  clear hW1
  go_enter Try.func11, Try.ntmps11
  go_wp2_with (at_make; go_loud (
     rw [HWA.out]
     refine wpList_make_full _ rfl _ _ 23 rfl w.heap.size 3 i3 (.int .i64 0) 1 Try.underlying23 hi3 hz30 hz31 _ _ _ _ (ps.length + 3) rfl rfl (by omega) (by omega) (by rw [hz32]; omega) (by unfold maxLen; omega) HBW.out.size ?_
     intro w2 hown2 hg2
     rw [madeInts] at hown2
     have HR2 : Hid (w2.heap[W1.heap.size]? = some (.cells (List.replicate (ps.length + 3) (Value.int .i64 0)).toArray 3 (0, 0))) := own_full hown2
     have HB2 : Hid (Below W1.heap.size W1 w2) := (Below.refl _ _).grown hg2 (Nat.le_refl _) (fun k h => by cases h)
     clear hown2 hg2))
  obtain ⟨w3, hw3⟩ : ∃ w3, w3 = w2.alloc (.cells #[.slice none 0 0, .slice none 0 0, .slice (some ⟨w.heap.size + 1, 0, none⟩) (ps.length + 3) (ps.length + 3), .slice none 0 0, .slice none 0 0] 33) := ⟨_, rfl⟩
  rw [← hw3]
  have hlt2 : w.heap.size + 1 ≤ w2.heap.size := by have := HB2.out.size; omega
  have hb3 : Below w2.heap.size w2 w3 := by rw [hw3]; exact below_new _ _
  have HB3 : Hid (Below W1.heap.size W1 w3) := HB2.out.trans (hb3.mono HB2.out.size)
  have HLOW3 : Hid (Below w.heap.size w w3) := HBW.out.trans (HB3.out.mono HBW.out.size)
  have HX3 : Hid (KBox w3 w.heap.size (.slice a1 ps.length c1) (.slice a2 L.length c2)) := HX1.out.here HB3.out
  obtain ⟨b, hb⟩ : ∃ b, b = w2.heap.size := ⟨_, rfl⟩
  have HL3 : Hid (LBox w3 b (.slice none 0 0) (.slice none 0 0) (.slice (some ⟨w.heap.size + 1, 0, none⟩) (ps.length + 3) (ps.length + 3)) (.slice none 0 0) (.slice none 0 0)) := by rw [hb, hw3]; exact ⟨heap_alloc_last _ _⟩
  have HR3 : Hid (w3.heap[w.heap.size + 1]? = some (.cells (List.replicate (ps.length + 3) (Value.int .i64 0)).toArray 3 (0, 0))) := by
    have h1 := HR2.out
    rw [hs1] at h1
    exact (hb3.block _ (Array.getElem?_eq_some_iff.1 h1).1).trans h1
  rw [← hb]
  have hbs : w.heap.size ≤ b := by omega
  have HNB : Hid (b ≠ w.heap.size + 1) := tag_ne HL3.out.row HR3.out (by decide)
  clear hw3 hb3 HB2 HR2 HWA hs1 HBW HX1 k0 k1 hb hlt2 HB3
  obtain ⟨k0, k1⟩ := HX3.out.cells
  obtain ⟨_, _, m0, _⟩ := HL3.out.cells
  have hmin : (ps.map encI).length = Nat.min ps.length (ps.length + 3) := by rw [List.length_map]; exact (Nat.min_eq_left (by omega)).symm
  have hfit : 0 + (ps.map encI).length ≤ (List.replicate (ps.length + 3) (Value.int .i64 0)).length := by simp
  have HSR : Hid (0 < (ps.map encI).length → some (⟨w.heap.size + 1, 0, none⟩ : Addr) = some ⟨w.heap.size + 1, 0, none⟩ ∧ ∃ ad, a1 = some ad ∧ ∀ (j : Nat) (v : Value), (ps.map encI)[j]? = some v → w3.cell? (ad.add j) = some v) := ints_src (HP.out.below HLOW3.out) _ _
  go_region_held_law (fun W' => W'.cell? ⟨b, 2, none⟩ = some (.slice (some ⟨w.heap.size + 1, 0, none⟩) (ps.length + 3) (ps.length + 3)) ∧ W'.cell? ⟨w.heap.size, 0, none⟩ = some (.slice a1 ps.length c1)) (first | (refine ⟨?_, ?_⟩ <;> with_reducible assumption) | (go_keep; done))
    (first | (refine step_copy_only (by rfl) _ _ 23 23 (by rfl) 3 Try.underlying23 hsz3 _ _ _ _ _ _ (by rfl) (by rfl) (w.heap.size + 1) 0 (List.replicate (ps.length + 3) (Value.int .i64 0)) 3 (by exact HR3.out) (ps.map encI) hmin (by exact HSR.out) hfit (oneI ps) ?_
              intro w4 hr4 ho4
              have HR4 : Hid (w4.heap[w.heap.size + 1]? = some (.cells (splice (List.replicate (ps.length + 3) (Value.int .i64 0)) 0 (ps.map encI)).toArray 3 (0, 0))) := hr4.out
              have HO4 : Hid (Only (w.heap.size + 1) w3 w4) := ⟨⟨ho4.low.os, ho4.low.tape, ho4.low.output, ho4.low.size, ho4.low.block⟩, ho4.far⟩
              have x0 : w4.cell? ⟨b, 2, none⟩ = some (.slice (some ⟨w.heap.size + 1, 0, none⟩) (ps.length + 3) (ps.length + 3)) := by
                rw [row_cell ((HO4.out.far _ HNB.out).trans HL3.out.row)]; rfl
              have x1 : w4.cell? ⟨w.heap.size, 0, none⟩ = some (.slice a1 ps.length c1) := by
                rw [row_cell ((HO4.out.far _ (by omega)).trans HX3.out.row)]; rfl
              clear hr4 ho4))
  have HPM : Hid (PagesMade w w4 b (ps.length + 3) (.slice a1 ps.length c1) (.slice a2 L.length c2) (pagesM ps 0)) := by
    refine ⟨⟨(HO4.out.far _ (by omega)).trans HX3.out.row⟩, ⟨(HO4.out.far _ HNB.out).trans HL3.out.row⟩, hbs, ⟨by omega, ?_⟩, HLOW3.out.trans (HO4.out.below (by omega))⟩
    rw [← pages_splice]; exact HR4.out
  clear HR4 HO4 HSR hmin hfit HR3 HL3 HX3 HLOW3 k0 k1 m0 x0
  go_wp2_with fail
  clear x1
  go_loopw [4] (fun i wx => ∃ j : Nat, j ≤ 3 ∧ i = .int .i64 ((ps.length + j : Nat) : Int) ∧ PagesMade w wx b (ps.length + 3) (.slice a1 ps.length c1) (.slice a2 L.length c2) (pagesM ps j)) (fun i _ => ps.length + 3 - (intOf i).toNat)
  case atStart => exact ⟨0, by omega, rfl, HPM.out⟩
  case round =>
    obtain ⟨j, hj, rfl, hpm⟩ := hrel
    have HI : Hid (PagesMade w wr b (ps.length + 3) (.slice a1 ps.length c1) (.slice a2 L.length c2) (pagesM ps j)) := hpm
    clear HPM
    obtain ⟨k0, k1⟩ := hpm.par.cells
    obtain ⟨_, _, m0, _⟩ := hpm.box.cells
    by_cases hlt : j < 3
    · have hz : ((ps.length + j : Nat) : Int) < (ps.length : Int) + 3 := by omega
      have hz2 : ((ps.length + j : Nat) : Int) < ((ps.length + 3 : Nat) : Int) := by omega
      obtain ⟨c0, r0⟩ := hpm.row.cell (ps.length + j) 0 (pagesM_get ps j hlt)
      have HN : Hid (PagesMade w (wr.setCell ⟨w.heap.size + 1, ps.length + j, none⟩ (.int .i64 (-9))) b (ps.length + 3) (.slice a1 ps.length c1) (.slice a2 L.length c2) (pagesM ps (j + 1))) := by
        rw [← pagesM_set ps j hlt]; exact hpm.set _ _
      clear hpm
      go_wp2
      exact ⟨⟨j + 1, by omega, by go_num, HN.out⟩, by simp [intOf]; omega⟩
    · have hz : ¬ ((ps.length + j : Nat) : Int) < (ps.length : Int) + 3 := by omega
      have hz2 : ¬ ((ps.length + j : Nat) : Int) < ((ps.length + 3 : Nat) : Int) := by omega
      obtain rfl : j = 3 := by omega
      have HLE : Hid (Lending w wr b (.slice a1 ps.length c1) (.slice a2 L.length c2) ps L 0 [] (.slice none 0 0) (.slice none 0 0)) := Lending.start hpm
      clear HI hpm
      go_wp2_with fail
      clear k0 m0
      go_loopw [5] (fun i wx => ∃ (m : Nat) (F : List Lk) (vk vl : Value), m ≤ L.length ∧ i = .int .i64 m ∧ Lending w wx b (.slice a1 ps.length c1) (.slice a2 L.length c2) ps L m F vk vl) (fun i _ => L.length - (intOf i).toNat)
      case atStart => exact ⟨0, [], _, _, by omega, rfl, HLE.out⟩
      case round =>
        clear k1 HLE
        obtain ⟨wa, rfl⟩ : ∃ wa, wa = wr := ⟨_, rfl⟩
        obtain ⟨m, F, vk, vl, hm, rfl, hle⟩ := hrel
        have HI : Hid _ := hle
        obtain ⟨k0, k1⟩ := hle.par.cells
        clear hle
        by_cases hlt : m < L.length
        · have hz : (m : Int) < (L.length : Int) := by omega
          obtain ⟨e, he⟩ : ∃ e, L[m]? = some e := ⟨_, List.getElem?_eq_getElem hlt⟩
          obtain ⟨g, off, _, e1, hgw, hcell⟩ := (HK.out.below HI.out.low).cellB m e he
          cases e1
          have hok := HK.out.ok e (List.mem_of_getElem? he)
          have hsh : e.k.length ≤ 2147483647 := by
            have h1 := weightL_mem (List.mem_of_getElem? he)
            have h2 := HWT.out
            omega
          obtain ⟨ae, ce, e2⟩ := hok.form
          rw [e2] at hcell hok
          have HKE : Hid (L[m]? = some e) := he
          have HKY : Hid (KeyIn w.heap.size w (.slice ae e.k.length ce) e.k) := hok
          have hwr := HI.out.low.size
          have HPAR : Hid (∀ W, Below wa.heap.size wa W → W.cell? ⟨w.heap.size, 0, none⟩ = some (.slice a1 ps.length c1) ∧ W.cell? ⟨w.heap.size, 1, none⟩ = some (.slice (some ⟨g, off, none⟩) L.length c2) ∧ W.cell? ⟨g, off + m, none⟩ = some (.slice ae e.k.length ce)) := fun W hb =>
            ⟨(HI.out.par.here hb).cells.1, (HI.out.par.here hb).cells.2, by rw [hb.cell (by show g < _; omega)]; exact hcell⟩
          have HBY : Hid (BytesAt w.heap.size w ae e.k) := by
            obtain ⟨⟨a', c', e1, hb, _⟩, _⟩ := hok; cases e1; exact hb
          have hmin : (e.k.map encB).length = Nat.min e.k.length (e.k.length + 3) := by rw [List.length_map]; exact (Nat.min_eq_left (by omega)).symm
          have hfit : 0 + (e.k.map encB).length ≤ (List.replicate (e.k.length + 3) (Value.int .u8 0)).length := by simp
          clear hok he e2
          go_wp2_with (first
            | (at_make; go_loud (
               refine wpList_make_full _ rfl _ _ 27 rfl wa.heap.size 5 i5 (.int .u8 0) 1 Try.underlying27 hi5 hz50 hz51 _ _ _ _ (e.k.length + 3) rfl rfl (by omega) (by omega) (by rw [hz52]; omega) (by unfold maxLen; omega) (Nat.le_refl _) ?_
               intro w1 hown1 hg1
               rw [madeBytes] at hown1
               have HR1 : Hid (w1.heap[wa.heap.size]? = some (.cells (List.replicate (e.k.length + 3) (Value.int .u8 0)).toArray 5 (0, 0))) := own_full hown1
               have HB1 : Hid (Below wa.heap.size wa w1) := (Below.refl _ _).grown hg1 (Nat.le_refl _) (fun k h => by cases h)
               obtain ⟨_, x1, x2⟩ := HPAR.out w1 HB1.out
               clear hown1 hg1))
            | (refine wpList_copy_splice rfl _ _ 27 27 rfl 5 Try.underlying27 hsz5 _ _ _ _ _ _ rfl rfl wa.heap.size 0 (List.replicate (e.k.length + 3) (Value.int .u8 0)) 5 HR1.out (e.k.map encB) hmin (copy_src ((HBY.out.below (HI.out.low.trans (HB1.out.mono hwr)))) _ _) hfit (oneB e.k) wa.heap.size _ (Below.refl _ _) (Nat.le_refl _) ?_
               intro w2 hr2 hb2
               have HR2 : Hid (BRow w2 wa.heap.size (keyM e.k 0)) := ⟨by rw [← key_splice]; exact hr2.out⟩
               have HB2 : Hid (Below wa.heap.size wa w2) := HB1.out.trans hb2
               obtain ⟨_, y1, y2⟩ := HPAR.out w2 HB2.out
               clear hb2 hr2 x1 x2))
          clear k0 k1 hcell hmin hfit y1 y2 HR1 HB1
          have HXW : Hid (BRow w2 wa.heap.size (keyM e.k 0) ∧ Below wa.heap.size wa w2) := ⟨HR2.out, HB2.out⟩
          clear HR2 HB2
          go_loopw [7] (fun i wx => ∃ j : Nat, j ≤ 3 ∧ i = .int .i64 ((e.k.length + j : Nat) : Int) ∧ BRow wx wa.heap.size (keyM e.k j) ∧ Below wa.heap.size wa wx) (fun i _ => e.k.length + 3 - (intOf i).toNat)
          case atStart => exact ⟨0, by omega, rfl, HXW.out⟩
          case round =>
            clear HXW
            obtain ⟨j, hj, rfl, hrw, hbw⟩ := hrel
            by_cases hlt3 : j < 3
            · have hz1 : ((e.k.length + j : Nat) : Int) < (e.k.length : Int) + 3 := by omega
              have hz2 : ((e.k.length + j : Nat) : Int) < ((e.k.length + 3 : Nat) : Int) := by omega
              obtain ⟨c0, r0⟩ := hrw.cell (e.k.length + j) 0 (keyM_get e.k j hlt3)
              have HN : Hid (BRow (wr.setCell ⟨wa.heap.size, e.k.length + j, none⟩ (.int .u8 167)) wa.heap.size (keyM e.k (j + 1)) ∧ Below wa.heap.size wa (wr.setCell ⟨wa.heap.size, e.k.length + j, none⟩ (.int .u8 167))) := by
                rw [← keyM_set e.k j hlt3]
                have h1 := hrw.set (e.k.length + j) 167
                exact ⟨h1, hbw.trans (Below.setCell (p := ⟨wa.heap.size, e.k.length + j, none⟩) (Below.refl _ _) (Nat.le_refl _) _)⟩
              clear hrw hbw
              go_wp2
              exact ⟨⟨j + 1, by omega, by go_num, HN.out⟩, by simp [intOf]; omega⟩
            · have hz1 : ¬ ((e.k.length + j : Nat) : Int) < (e.k.length : Int) + 3 := by omega
              have hz2 : ¬ ((e.k.length + j : Nat) : Int) < ((e.k.length + 3 : Nat) : Int) := by omega
              obtain rfl : j = 3 := by omega
              have HR3 : Hid (BRow wr wa.heap.size (keyM e.k 3)) := hrw
              have HB3 : Hid (Below wa.heap.size wa wr) := hbw
              have HL3 : Hid (Lent w.heap.size b (w.heap.size + 1) wr (.slice (some ⟨w.heap.size + 1, 0, none⟩) (ps.length + 3) (ps.length + 3)) (ps ++ [-9, -9, -9]) F (F.map Lk.kv) (F.map Lk.lv) vk vl) := HI.out.lent.here hbw
              have hw3 : w.heap.size ≤ wr.heap.size := Nat.le_trans hwr hbw.size
              have HFL : Hid (F.length = m) := HI.out.len
              have HF1 : Hid ((F.map Lk.kv).length = m) := by rw [List.length_map]; exact HFL.out
              have HF2 : Hid ((F.map Lk.lv).length = m) := by rw [List.length_map]; exact HFL.out
              clear hrw hbw
              -- the keys' list
              obtain ⟨wA, hwA⟩ : ∃ wA, wA = wr.alloc (.cells #[.slice (some ⟨wa.heap.size, 0, none⟩) (e.k.length + 3) (e.k.length + 3)] 27) := ⟨_, rfl⟩
              have HBA : Hid (Below wr.heap.size wr wA) := by rw [hwA]; exact below_new _ _
              have HWA : Hid (wr.alloc (.cells #[.slice (some ⟨wa.heap.size, 0, none⟩) (e.k.length + 3) (e.k.length + 3)] 27) = wA) := hwA.symm
              have HNEW : Hid (∀ (j : Nat) (u : Value), [Value.slice (some ⟨wa.heap.size, 0, none⟩) (e.k.length + 3) (e.k.length + 3)][j]? = some u → wA.cell? ((⟨wr.heap.size, 0, none⟩ : Addr).add j) = some u) := by rw [hwA]; exact one_src wr _ _
              have HKO : Hid (wA.ownsRow w.heap.size 27 1 vk m (F.map Lk.kv)) := by have := (HL3.out.here HBA.out).keys; rw [HF1.out] at this; exact this
              obtain ⟨_, _, _, k3, _⟩ := HL3.out.box.cells
              clear hwA
              go_upto_region 17 with (at_builtin; go_loud (
                rw [HWA.out]
                refine wpList_append_lies _ rfl _ _ 24 rfl w.heap.size 27 i7 (.slice none 0 0) 1 24 Try.underlying24 hi7 hz70 hz71 hz72 rfl (by decide) vk m (F.map Lk.kv) rfl HKO.out ⟨wr.heap.size, 0, none⟩ 1 1 [.slice (some ⟨wa.heap.size, 0, none⟩) (e.k.length + 3) (e.k.length + 3)] rfl rfl HNEW.out (by intro u hu; simp at hu; subst hu; rfl) (by decide) (by unfold maxLen; omega) (by omega) (Nat.le_trans hw3 HBA.out.size) _ rfl ?_
                intro g6 c6 w6 ho6 hg6 hat6 _
                have HO6 : Hid _ := ho6
                have HG6 : Hid (wA.grownBy w6 vk.ownBlock) := hg6
                have HAT6 : Hid (vk.ownBlock = some g6 ∨ g6 = wA.heap.size) := hat6
                have hb6 := HL3.out.mid (.inl rfl) HBA.out hg6
                obtain ⟨q0, q1, q2, q3, q4⟩ := hb6.cells
                have f3 := hb6.open 3
                clear ho6 hg6 hat6 hb6))
              obtain ⟨w7, hw7⟩ : ∃ w7, w7 = w6.setCell ⟨b, 3, none⟩ (.slice (some ⟨g6, 0, none⟩) (m + 1) c6) := ⟨_, rfl⟩
              rw [← hw7]
              have hst := HL3.out.keyed HBA.out HG6.out HAT6.out (by rw [HF1.out]; exact HO6.out) hw3
              rw [← hw7] at hst
              obtain ⟨hl7, hk7⟩ := hst
              have HL7 : Hid _ := hl7
              have HK7 : Hid (KeepL w.heap.size wr w7) := hk7
              have hw7s : w.heap.size ≤ w7.heap.size := Nat.le_trans hw3 hk7.low.size
              have HPX : Hid (∀ W, KeepL w.heap.size w7 W → W.cell? ⟨w.heap.size, 1, none⟩ = some (.slice (some ⟨g, off, none⟩) L.length c2) ∧ W.cell? ⟨g, off + m, none⟩ = some (.slice ae e.k.length ce)) := fun W hb => by
                obtain ⟨_, h1, h2⟩ := HPAR.out wr HB3.out
                have hk := hk7.trans hb
                refine ⟨by rw [row_cell (hk.typ _ _ _ _ (by decide) (by decide) (HI.out.par.here HB3.out).row)]; rfl, by rw [hk.low.cell (by show g < _; omega)]; exact h2⟩
              clear hw7 hl7 hk7 HO6 HG6 HAT6 HKO HNEW HWA HBA HL3 q0 q1 q2 q3 q4 f3 k3
              -- the list
              obtain ⟨al, cl, rfl⟩ := own_form HL7.out.list
              rw [HF2.out] at HL7
              obtain ⟨_, _, _, _, k4⟩ := HL7.out.box.cells
              obtain ⟨k1, kc⟩ := HPX.out w7 (KeepL.of (Below.refl _ _) hw7s)
              have HLO : Hid (w7.ownsRow w.heap.size 27 1 (.slice al m cl) m (F.map Lk.lv)) := by have := HL7.out.list; rw [HF2.out] at this; exact this
              have hcp : e.k.length ≤ e.k.length + 3 := by omega
              have hcz : (e.k.length : Int) ≤ (e.k.length : Int) + 3 := by omega
              have xa : ∀ o, (w7.alloc o).cell? ⟨b, 4, none⟩ = some (.slice al m cl) := fun o => ((HL7.out.box.here (below_new _ _)).cells).2.2.2.2
              have HNG : Hid (b ≠ g ∧ b ≠ w.heap.size) := ⟨by have := HI.out.lent.hb; have := tag_ne HI.out.lent.box.row HI.out.par.row (by decide); omega, tag_ne HI.out.lent.box.row HI.out.par.row (by decide)⟩
              go_region_law
                (first | (refine step_append_lies _ (by rfl) _ _ 24 (by rfl) w.heap.size 27 i7 (.slice none 0 0) 1 24 Try.underlying24 hi7 hz70 hz71 hz72 rfl (by decide) (.slice al m cl) m (F.map Lk.lv) (by rfl) (by exact own_same HLO.out fun k _ hl => (below_new w7.drew _).block k hl) ⟨w7.heap.size, 0, none⟩ 1 1 [.slice (some ⟨wa.heap.size, 0, none⟩) e.k.length (e.k.length + 3)] (by rfl) rfl (by exact one_src w7.drew _ _) (by intro u hu; simp at hu; subst hu; rfl) (by decide) (by unfold maxLen; omega) (by omega) (by simp; omega) _ rfl ?_
                          intro g8 c8 w8 ho8 hg8 hat8 _
                          have HO8 : Hid _ := ho8
                          have HG8 : Hid ((w7.drew.alloc (.cells #[.slice (some ⟨wa.heap.size, 0, none⟩) e.k.length (e.k.length + 3)] 27)).grownBy w8 (Value.slice al m cl).ownBlock) := hg8
                          have HAT8 : Hid ((Value.slice al m cl).ownBlock = some g8 ∨ g8 = (w7.drew.alloc (.cells #[.slice (some ⟨wa.heap.size, 0, none⟩) e.k.length (e.k.length + 3)] 27)).heap.size) := hat8
                          have hB8 : Below w7.heap.size w7 (w7.drew.alloc (.cells #[.slice (some ⟨wa.heap.size, 0, none⟩) e.k.length (e.k.length + 3)] 27)) := Below.drew (Below.refl _ _) |>.alloc (Nat.le_refl _) _
                          have hb8 := HL7.out.mid (.inr rfl) hB8 hg8
                          obtain ⟨_, _, _, _, q4⟩ := hb8.cells
                          have f4 := hb8.open 4
                          have hro : (w7.drew.alloc (.cells #[.slice (some ⟨wa.heap.size, 0, none⟩) e.k.length (e.k.length + 3)] 27)).ownsRow w.heap.size 27 1 (.slice al m cl) m (F.map Lk.lv) := own_same HLO.out fun k _ hl => hB8.block k hl
                          obtain ⟨q5, q6⟩ := HPX.out w8 (keepL_grown hB8 hro hg8 hw7s)
                          clear ho8 hg8 hat8 hb8 hB8 hro))
              all_goals
                have hB8 : Below w7.heap.size w7 (w7.drew.alloc (.cells #[.slice (some ⟨wa.heap.size, 0, none⟩) e.k.length (e.k.length + 3)] 27)) := Below.drew (Below.refl _ _) |>.alloc (Nat.le_refl _) _
                have hst := HL7.out.listed (XS := [.slice (some ⟨wa.heap.size, 0, none⟩) e.k.length (e.k.length + 3)]) hB8 HG8.out HAT8.out (by rw [HF2.out]; exact HO8.out) hw7s
                have HNX : Hid _ := HI.out.next HB3.out hst.1 (HK7.out.trans hst.2) HR3.out HKE.out (by omega)
                clear hst hB8
                go_wp2
                exact ⟨⟨m + 1, _, _, _, by omega, by go_num, HNX.out⟩, by simp [intOf]; omega⟩
        · have hz : ¬ (m : Int) < (L.length : Int) := by omega
          have hml : m = L.length := by omega
          have HFL : Hid (F.length = L.length) := by rw [Hid, ← hml]; exact HI.out.len
          have HFK : Hid (F.map Lk.k = keysOf L) := by
            have := HI.out.is
            rw [List.take_of_length_le (by rw [keysOf_length]; omega)] at this
            exact this
          have HF2 : Hid ((F.map Lk.lv).length = L.length) := by rw [List.length_map]; exact HFL.out
          clear hml
          obtain ⟨al, cl, rfl⟩ := own_form HI.out.lent.list
          rw [HF2.out] at HI
          have hwa := HI.out.low.size
          obtain ⟨WM, hWM⟩ : ∃ WM, WM = marksW wa (4, 5) := ⟨_, rfl⟩
          have HWM : Hid (((wa.alloc (.cells #[.int .u8 109, .int .u8 97, .int .u8 114, .int .u8 107] 5 (4, 5))).alloc (.cells #[.int .u8 109, .int .u8 97, .int .u8 114, .int .u8 107] 5 (4, 5))).alloc (.cells #[.slice (some ⟨wa.heap.size, 0, none⟩) 4 4, .slice (some ⟨wa.heap.size + 1, 0, none⟩) 4 4] 27) = WM) := by rw [hWM]; rfl
          have HBM : Hid (Below wa.heap.size wa WM) := by rw [hWM]; exact marksW_below _ _
          have HKM : Hid (WM.heap[wa.heap.size]? = some (.cells markC 5 (4, 5)) ∧ WM.heap[wa.heap.size + 1]? = some (.cells markC 5 (4, 5))) := by rw [hWM]; exact marksW_rows _ _
          have HNM : Hid (∀ (j : Nat) (u : Value), [Value.slice (some ⟨wa.heap.size, 0, none⟩) 4 4, Value.slice (some ⟨wa.heap.size + 1, 0, none⟩) 4 4][j]? = some u → WM.cell? ((⟨wa.heap.size + 2, 0, none⟩ : Addr).add j) = some u) := by rw [hWM]; exact marksW_src _ _
          have HSM : Hid (WM.heap.size = wa.heap.size + 3) := by rw [hWM]; exact marksW_size _ _
          have HLO : Hid (WM.ownsRow w.heap.size 27 1 (.slice al L.length cl) L.length (F.map Lk.lv)) := by have := (HI.out.lent.here HBM.out).list; rw [HF2.out] at this; exact this
          obtain ⟨_, _, _, _, k4⟩ := HI.out.lent.box.cells
          clear hWM
          go_upto_region 19 with (at_builtin; go_loud (
            rw [HWM.out]
            refine wpList_append_lies _ rfl _ _ 24 rfl w.heap.size 27 i7 (.slice none 0 0) 1 24 Try.underlying24 hi7 hz70 hz71 hz72 rfl (by decide) (.slice al L.length cl) L.length (F.map Lk.lv) rfl HLO.out ⟨wa.heap.size + 2, 0, none⟩ 2 2 [.slice (some ⟨wa.heap.size, 0, none⟩) 4 4, .slice (some ⟨wa.heap.size + 1, 0, none⟩) 4 4] rfl rfl HNM.out (by intro u hu; simp at hu; rcases hu with rfl | rfl <;> rfl) (by decide) (by unfold maxLen; omega) (by omega) (Nat.le_trans hwa HBM.out.size) _ rfl ?_
            intro g6 c6 w6 ho6 hg6 hat6 _
            have HO6 : Hid _ := ho6
            have HG6 : Hid (WM.grownBy w6 (Value.slice al L.length cl).ownBlock) := hg6
            have HAT6 : Hid ((Value.slice al L.length cl).ownBlock = some g6 ∨ g6 = WM.heap.size) := hat6
            have hb6 := HI.out.lent.mid (.inr rfl) HBM.out hg6
            obtain ⟨q0, q1, q2, q3, q4⟩ := hb6.cells
            have f4 := hb6.open 4
            clear ho6 hg6 hat6 hb6))
          obtain ⟨w7, hw7⟩ : ∃ w7, w7 = w6.setCell ⟨b, 4, none⟩ (.slice (some ⟨g6, 0, none⟩) (L.length + 2) c6) := ⟨_, rfl⟩
          rw [← hw7]
          have hst := HI.out.lent.listed (XS := [.slice (some ⟨wa.heap.size, 0, none⟩) 4 4, .slice (some ⟨wa.heap.size + 1, 0, none⟩) 4 4]) HBM.out HG6.out HAT6.out (by rw [HF2.out]; exact HO6.out) hwa
          rw [← hw7] at hst
          obtain ⟨hl7, hk7⟩ := hst
          have HL7 : Hid _ := hl7
          have HP7 : Hid (KBox w7 w.heap.size (.slice a1 ps.length c1) (.slice a2 L.length c2)) := ⟨hk7.typ _ _ _ _ (by decide) (by decide) HI.out.par.row⟩
          have HB7 : Hid (Below w.heap.size w w7) := HI.out.low.trans hk7.low
          have HK7 : Hid (KeyAt w7 (.slice (some ⟨wa.heap.size, 0, none⟩) 4 4) markK ∧ KeyAt w7 (.slice (some ⟨wa.heap.size + 1, 0, none⟩) 4 4) markK) := by
            have hk := keepL_put (i := 4) (Below.refl WM.heap.size WM) HLO.out HG6.out (HI.out.lent.mid (.inr rfl) HBM.out HG6.out) HI.out.lent.hb (Nat.le_trans hwa HBM.out.size) (.slice (some ⟨g6, 0, none⟩) (L.length + 2) c6)
            rw [← hw7] at hk
            exact ⟨mark_of (hk.typ _ _ _ _ (by decide) (by decide) HKM.out.1), mark_of (hk.typ _ _ _ _ (by decide) (by decide) HKM.out.2)⟩
          clear hw7 hl7 hk7 HO6 HG6 HAT6 HLO HSM HNM HKM HBM HWM q0 q1 q2 q3 q4 f4 k4
          obtain ⟨q0, q1, q2, _, q4⟩ := HL7.out.box.cells
          have f0 := HL7.out.box.open 0
          have f1 := HL7.out.box.open 1
          obtain ⟨k0, k1⟩ := HP7.out.cells
          have HNE : Hid (b ≠ w.heap.size) := tag_ne HL7.out.box.row HP7.out.row (by decide)
          have hge : L.length + 2 ≤ c6 := by
            obtain ⟨_, ⟨e, _⟩ | ⟨g, cap, cur, e, _, _, hc, _⟩⟩ := HL7.out.list
            · simp at e
            · simp only [Value.slice.injEq] at e
              obtain ⟨_, h2, rfl⟩ := e
              omega
          have hcp : L.length ≤ c6 := by omega
          have HRB : Hid (∃ cur, w7.heap[b]? = some (.cells cur 33 (0, 0))) := ⟨_, HL7.out.box.row⟩
          go_region_held_law (fun W' => W'.cell? ⟨b, 2, none⟩ = some (.slice (some ⟨w.heap.size + 1, 0, none⟩) (ps.length + 3) (ps.length + 3)) ∧ W'.cell? ⟨b, 4, none⟩ = some (.slice (some ⟨g6, 0, none⟩) (L.length + 2) c6) ∧ W'.cell? ⟨w.heap.size, 0, none⟩ = some (.slice a1 ps.length c1) ∧ W'.cell? ⟨w.heap.size, 1, none⟩ = some (.slice a2 L.length c2)) (first | (refine ⟨?_, ?_, ?_, ?_⟩ <;> with_reducible assumption) | (refine ⟨?_, ?_, ?_, ?_⟩ <;> (try rw [cell_drew]) <;> (first | rw [put01_cell (.inr (by decide)) HRB.out] | rw [put01_cell (.inl HNE.out) HRB.out]) <;> with_reducible assumption) | (go_keep; done)) (fail)
          have HEND := Lent.loan (base := w.heap.size) (b := b) (gp := w.heap.size + 1) (gl := g6) (cl := c6) (w := w7) (ps := ps) (F := F) (vk := vk) (by rw [HFL.out]; exact HL7.out) HI.out.nod HK7.out.1 HK7.out.2 ⟨_, rfl, hwa⟩ ⟨_, rfl, Nat.le_succ_of_le hwa⟩
          rw [HFL.out] at HEND
          have HE : Hid _ := HEND
          clear HEND
          go_wp2
          go_ret
          exact ⟨b, _, F, rfl, HE.out.1.here (Below.refl _ _).drew, HFK.out, (HB7.out.trans HE.out.2).drew⟩
end Go.Proofs.Ytaehchijeinloaa
