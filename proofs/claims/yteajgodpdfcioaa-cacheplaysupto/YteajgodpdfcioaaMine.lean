/- mine: what came out is still as it came; then its owner writes it full, and makes it longer. -/
import Derived.Test.YteajgodpdfcioaaMineP
namespace Go.Proofs.Yteajgodpdfcioaa
open Go.RowKit

set_option maxHeartbeats 6400000 in
set_option maxRecDepth 100000 in
theorem mine_any {w : World} {B W : Nat} {l0 l1 l2 vo vw : Value} {O N : List (Value × List Int)} (H : Lay w B W l0 l1 l2 vo vw O) (hN : w.ownsRow 0 42 1 vw N.length (N.map (·.1))) (hI : ∀ (i : Nat) v bs, O[i]? = some (v, bs) → w.ownsRow B 3 1 v bs.length (bs.map encI)) (hC : ∀ (i : Nat) v bs, N[i]? = some (v, bs) → NewI 0 w v bs) (hs : O.map (·.2) = N.map (·.2)) (hA : Alone O) (hbase : B ≤ w.heap.size) (hil : O.length ≤ 4194304) (hbl : ∀ (i : Nat) v bs, O[i]? = some (v, bs) → bs.length ≤ 65536) :
    Calls Try.prog 10 #[ptr W] w fun e w' => e = .returned (.bool true) ∧ Below B w w' := by
  obtain ⟨al, cl, rfl⟩ := H.len
  obtain ⟨aw, cw, rfl⟩ := own_slice hN
  have hNl : N.length = O.length := by have := congrArg List.length hs; simpa using this.symm
  have HH : Hid (Lay w B W l0 l1 l2 (.slice al O.length cl) (.slice aw N.length cw) O) := H
  have HI : Hid (∀ (i : Nat) v bs, O[i]? = some (v, bs) → w.ownsRow B 3 1 v bs.length (bs.map encI)) := hI
  have HC : Hid (∀ (i : Nat) v bs, N[i]? = some (v, bs) → NewI 0 w v bs) := hC
  have HNR : Hid (w.ownsRow 0 42 1 (.slice aw N.length cw) N.length (N.map (·.1))) := hN
  have HS : Hid (O.map (·.2) = N.map (·.2)) := hs
  have HBL : Hid _ := hbl
  have HAL : Hid (Alone O) := hA
  have HNL : Hid (N.length = O.length) := hNl
  obtain ⟨p0, p1⟩ := H.book
  clear H hI hbl hA hN hC hs hNl
  go_enter Try.func10, Try.ntmps10
  go_wp2
  go_loopw [3] (fun s wr => ∃ i : Nat, i ≤ O.length ∧ s = .int .i64 i ∧ ∃ q, wr = w.drewN q) (fun s _ => O.length - (intOf s).toNat)
  case atStart => exact ⟨0, by omega, rfl, 0, rfl⟩
  case round =>
    obtain ⟨i, hi, rfl, q, rfl⟩ := hrel
    by_cases hlt : i < O.length
    · have hiz : (i : Int) < (O.length : Int) := by omega
      have hiw : (i : Int) < (N.length : Int) := by have := HNL.out; omega
      obtain ⟨⟨v, bs⟩, hv⟩ : ∃ x, O[i]? = some x := ⟨_, List.getElem?_eq_getElem hlt⟩
      obtain ⟨⟨u, bs'⟩, hu⟩ : ∃ x, N[i]? = some x := ⟨_, List.getElem?_eq_getElem (by have := HNL.out; omega)⟩
      have hbb : bs = bs' := by
        have := congrArg (fun l => l[i]?) HS.out
        simpa [List.getElem?_map, hv, hu] using this
      subst hbb
      obtain ⟨gl, cl', e1, q1, _⟩ := HH.out.at i v bs hv
      cases e1
      obtain ⟨gw, cw', e1, q2⟩ := rowB_at HNR.out i u (by rw [List.getElem?_map, hu]; rfl)
      cases e1
      obtain ⟨wq, hwq⟩ : ∃ wq, wq = w.drewN q := ⟨_, rfl⟩
      have HBQ : Hid (Below w.heap.size w wq) := by rw [hwq]; exact below_draws (Below.refl _ _) q
      have HSN : Hid (∀ p, Calls Try.prog 15 #[v, u] (wq.drewN p) fun e w' => e = .returned (.bool true) ∧ ∃ p', w' = (wq.drewN p).drewN p') := fun p => by
        have := sameInts_any (w := wq.drewN p) (RowAt.here (RowAt.own (HI.out i v bs hv)) (below_draws HBQ.out p)) (RowAt.here (RowAt.own (HC.out i u bs hu)) (below_draws HBQ.out p)) (by have := HBL.out i v bs hv; omega)
        rw [show decide (bs = bs) = true by simp] at this
        exact this
      have k0 : wq.cell? ⟨W, 3, none⟩ = some (.slice (some ⟨gl, 0, none⟩) O.length cl) := by rw [hwq]; exact p0
      have k1 : wq.cell? ⟨W, 4, none⟩ = some (.slice (some ⟨gw, 0, none⟩) N.length cw) := by rw [hwq]; exact p1
      have k2 : wq.cell? ⟨gl, i, none⟩ = some v := by rw [hwq]; exact q1
      have k3 : wq.cell? ⟨gw, i, none⟩ = some u := by rw [hwq]; exact q2
      obtain ⟨av, cv, rfl⟩ := own_slice (HI.out i v bs hv)
      obtain ⟨au, cu, rfl⟩ := own_slice (HC.out i u bs hu)
      rw [← hwq]
      have HWQ : Hid (wq = w.drewN q) := hwq
      clear hv hu p0 p1 q1 q2 hwq
      go_wp2_with fail
      go_quiet ((go_at_call 15; exact Calls.quiet_of (HSN.out _)))
      go_wp2_with fail
      exact ⟨⟨i + 1, by omega, by go_num, _, by rw [HWQ.out, draws_add]⟩, by simp [intOf]; omega⟩
    · have hiz : ¬ (i : Int) < (O.length : Int) := by omega
      have HH1 : Hid (Lay (w.drewN q) B W l0 l1 l2 (.slice al O.length cl) (.slice aw N.length cw) O) := HH.out.here (below_draws (Below.refl _ _) q)
      have HR1 : Hid (Rows2 (w.drewN q) B O 0) := fun j v bs hj => by
        have := own_here (HI.out j v bs hj) (below_draws (Below.refl _ _) q)
        simpa using this
      have HB1 : Hid (Below B w (w.drewN q)) := below_draws (Below.refl _ _) q
      have hs1 : B ≤ (w.drewN q).heap.size := hbase
      have k0 : (w.drewN q).cell? ⟨W, 3, none⟩ = some (.slice al O.length cl) := p0
      generalize w.drewN q = w1 at *
      clear HI HC HNR HS HNL HH p0 p1
      go_wp2_with fail
      clear k0 hiz hlt hi
      go_loopw [5] (fun s wr => ∃ i : Nat, i ≤ O.length ∧ s = .int .i64 i ∧ Lay wr B W l0 l1 l2 (.slice al O.length cl) (.slice aw N.length cw) O ∧ Rows2 wr B O i ∧ Below B w wr ∧ B ≤ wr.heap.size) (fun s _ => O.length - (intOf s).toNat)
      case atStart => exact ⟨0, by omega, rfl, HH1.out, HR1.out, HB1.out, hs1⟩
      case round =>
        clear HH1 HR1 HB1
        obtain ⟨i, hi, rfl, hL, hR, hbe, hbs⟩ := hrel
        have HL : Hid (Lay wr B W l0 l1 l2 (.slice al O.length cl) (.slice aw N.length cw) O) := hL
        have HR : Hid (Rows2 wr B O i) := hR
        have HBE : Hid (Below B w wr) := hbe
        have HBS : Hid (B ≤ wr.heap.size) := hbs
        obtain ⟨p0, p1⟩ := hL.book
        by_cases hlt : i < O.length
        · have hiz : (i : Int) < (O.length : Int) := by omega
          obtain ⟨⟨v, bs⟩, hv⟩ : ∃ x, O[i]? = some x := ⟨_, List.getElem?_eq_getElem hlt⟩
          have HV : Hid (O[i]? = some (v, bs)) := hv
          obtain ⟨gl, cl', e1, q1, _⟩ := hL.at i v bs hv
          cases e1
          have hrow := hR i v bs hv
          rw [if_neg (by omega)] at hrow
          have HROW : Hid (wr.ownsRow B 3 1 v bs.length (bs.map encI)) := hrow
          have hLB : bs.length ≤ 65536 := HBL.out i v bs hv
          have HM : Hid (-7 - (i : Int) = markOf i) := rfl
          obtain ⟨w2, rfl⟩ : ∃ w2, w2 = wr := ⟨_, rfl⟩
          clear hL hR hbe hbs hv hrow
          go_wp2
          clear p0 p1 q1
          go_loopw [6] (fun s wr => ∃ k : Nat, k ≤ bs.length ∧ s = .int .i64 k ∧ wr.ownsRow B 3 1 v bs.length ((List.replicate k (markOf i) ++ bs.drop k).map encI) ∧ Marked v.ownBlock (markOf i) w2 wr) (fun s _ => bs.length - (intOf s).toNat)
          case atStart => exact ⟨0, by omega, rfl, by simpa using HROW.out, Marked.refl _ _ _⟩
          case round =>
            obtain ⟨k, hk, rfl, hown, hmk⟩ := hrel
            have HOWN : Hid (wr.ownsRow B 3 1 v bs.length ((List.replicate k (markOf i) ++ bs.drop k).map encI)) := hown
            have HMK : Hid (Marked v.ownBlock (markOf i) w2 wr) := hmk
            have HL2 : Hid (Lay wr B W l0 l1 l2 (.slice (some ⟨gl, 0, none⟩) O.length cl) (.slice aw N.length cw) O) := HL.out.marked hmk HROW.out
            obtain ⟨p0, p1⟩ := HL2.out.book
            obtain ⟨gl', cl', e1, q1, curl, hcurl⟩ := HL2.out.at i v bs HV.out
            cases e1
            by_cases hkl : k < bs.length
            · have hkz : (k : Int) < (bs.length : Int) := by omega
              rcases hown.2 with ⟨_, e⟩ | ⟨q, cv, cur, rfl, hbq, hgq, _⟩
              · omega
              obtain ⟨z, hz⟩ : ∃ z, ((List.replicate k (markOf i) ++ bs.drop k).map encI)[k]? = some z := ⟨_, List.getElem?_eq_getElem (by simp; omega)⟩
              have hcell := hown.cellAt (j := k) (by omega)
              have hfz := hown.frozenAt (j := k)
              rw [hz] at hcell
              have n1 : ¬ W = q := fun e => by rw [← e] at hgq; exact absurd (tag_eq hgq HL2.out.cells) (by decide)
              have n2 : ¬ gl = q := fun e => by rw [← e] at hgq; exact absurd (tag_eq hgq hcurl) (by decide)
              have n3 : ¬ q = W := fun e => n1 e.symm
              have n4 : ¬ q = gl := fun e => n2 e.symm
              clear hown hmk hz hgq hcurl
              go_wp2
              rw [HM.out]
              obtain ⟨s1, _⟩ := World.ownsRow.stored (h := HOWN.out) k (.int .i64 (markOf i))
              rw [fill_next bs (markOf i) k hkl] at s1
              exact ⟨⟨k + 1, by omega, by go_num, s1, HMK.out.trans Marked.set⟩, by simp [intOf]; omega⟩
            · obtain rfl : k = bs.length := by omega
              have HROWM : Hid (wr.ownsRow B 3 1 v bs.length ((List.replicate bs.length (markOf i)).map encI)) := by show wr.ownsRow _ _ _ _ _ _; simpa using hown
              have HBE2 : Hid (Below B w wr) := HBE.out.trans (hmk.below B HBS.out fun k hk => (own_type HROW.out k hk).2.1)
              have HBS2 : Hid (B ≤ wr.heap.size) := Nat.le_trans HBS.out hmk.size
              obtain ⟨av, cv, rfl⟩ := own_slice HROWM.out
              clear hown hmk hcurl
              go_wp2
              exact ⟨⟨i + 1, by omega, by go_num, HL2.out, HR.out.next HAL.out HV.out HMK.out HROWM.out, HBE2.out, HBS2.out⟩, by simp [intOf]; omega⟩
        · have hiz : ¬ (i : Int) < (O.length : Int) := by omega
          have HRM : Hid (∀ (j : Nat) v bs, O[j]? = some (v, bs) → wr.ownsRow B 3 1 v bs.length (List.replicate bs.length (encI (markOf j)))) := fun j v bs hj => by
            have := hR j v bs hj
            have hji := (List.getElem?_eq_some_iff.1 hj).1
            rw [if_pos (by omega)] at this
            simpa using this
          obtain ⟨w3, rfl⟩ : ∃ w3, w3 = wr := ⟨_, rfl⟩
          obtain ⟨i7, hi7, hz70, hz71, hz72⟩ := infoS
          have HS : Hid (L4 w w3.heap.size B W l0 l1 l2 (.slice al O.length cl) (.slice aw N.length cw) O 0 (.slice none 0 0) [] w3) :=
            ⟨World.ownsRow_nil _ _ _ _, (fun k hk => by cases hk), HL.out, HRM.out, (fun j v bs hj => by omega), Nat.le_refl _, HBE.out, (fun k hk => (own_type HL.out.rowL k hk).1), (fun j v bs k hj hk => (own_type (HRM.out j v bs hj) k hk).1), HBS.out⟩
          clear hL hR hbe hbs HR
          go_wp2
          clear p0 p1 hlt hi hiz HL HRM HBE HBS
          go_loopw [8, 7] (fun s t wr => ∃ (i : Nat) (lv : Value) (longs : List Value), i ≤ O.length ∧ s = .int .i64 i ∧ lv = t ∧ L4 w w3.heap.size B W l0 l1 l2 (.slice al O.length cl) (.slice aw N.length cw) O i lv longs wr) (fun s _ _ => O.length - (intOf s).toNat)
          case atStart => exact ⟨0, _, [], by omega, rfl, rfl, HS.out⟩
          case round =>
            clear HS
            obtain ⟨i, lv, longs, hi, rfl, rfl, hL⟩ := hrel
            have HL : Hid (L4 w w3.heap.size B W l0 l1 l2 (.slice al O.length cl) (.slice aw N.length cw) O i lv longs wr) := hL
            obtain ⟨p0, p1⟩ := hL.lay.book
            by_cases hlt : i < O.length
            · have hiz : (i : Int) < (O.length : Int) := by omega
              obtain ⟨⟨v, bs⟩, hv⟩ : ∃ x, O[i]? = some x := ⟨_, List.getElem?_eq_getElem hlt⟩
              have HV : Hid (O[i]? = some (v, bs)) := hv
              obtain ⟨gl, cl', e1, q1, _⟩ := hL.lay.at i v bs hv
              cases e1
              have hLB : bs.length ≤ 65536 := HBL.out i v bs hv
              have HM : Hid (-7 - (i : Int) = markOf i) := rfl
              have HROW : Hid (wr.ownsRow B 3 1 v bs.length (List.replicate bs.length (encI (markOf i)))) := HL.out.marks i v bs HV.out
              have HBS : Hid (B ≤ wr.heap.size) := Nat.le_trans HL.out.hb HL.out.size
              obtain ⟨wf, rfl⟩ : ∃ wf, wf = wr := ⟨_, rfl⟩
              clear hL hv
              go_wp2
              clear p0 p1 q1
              go_loopw [10, 9] (fun s t wr => ∃ (k : Nat) (x : Value), k ≤ 20 ∧ s = .int .i64 k ∧ x = t ∧ wr.ownsRow B 3 1 x (bs.length + k) (List.replicate (bs.length + k) (encI (markOf i))) ∧ Marked v.ownBlock (markOf i) wf wr ∧ (x.ownBlock = v.ownBlock ∨ ∃ g, x.ownBlock = some g ∧ wf.heap.size ≤ g)) (fun s _ _ => 20 - (intOf s).toNat)
              case atStart => exact ⟨0, _, by omega, rfl, rfl, HROW.out, Marked.refl _ _ _, .inl rfl⟩
              case round =>
                obtain ⟨k2, x, hk2, rfl, rfl, hx, hmk, hxb⟩ := hrel
                have HX : Hid (wr.ownsRow B 3 1 x (bs.length + k2) (List.replicate (bs.length + k2) (encI (markOf i)))) := hx
                have HMK : Hid (Marked v.ownBlock (markOf i) wf wr) := hmk
                have HXB : Hid (x.ownBlock = v.ownBlock ∨ ∃ g, x.ownBlock = some g ∧ wf.heap.size ≤ g) := hxb
                have HBS2 : Hid (B ≤ wr.heap.size) := Nat.le_trans HBS.out hmk.size
                clear hx hmk hxb
                by_cases hk20 : k2 < 20
                · have hkz : (k2 : Int) < 20 := by omega
                  go_wp2_with (first
                    | (at_builtin; refine wpList_append_marks rfl _ _ rfl B (markOf i) 1 (by decide) x (bs.length + k2) rfl (own_same HX.out fun b _ hl => (below_new wr _).block b hl) ⟨wr.heap.size, 0, none⟩ 1 rfl (one_src wr _) (by omega) (Nat.le_trans HBS2.out (below_new wr _).size) ?_
                       intro x2 w4 hx2 hm2 hb2
                       have HX2 : Hid (w4.ownsRow B 3 1 x2 (bs.length + k2 + 1) (List.replicate (bs.length + k2 + 1) (encI (markOf i)))) := hx2
                       have HM2 : Hid (Marked x.ownBlock (markOf i) wr w4) := (Marked.of_below (below_new wr _)).trans hm2
                       have HB2 : Hid (x2.ownBlock = x.ownBlock ∨ ∃ g, x2.ownBlock = some g ∧ wr.heap.size ≤ g) := hb2.imp id (fun ⟨g, h1, h2⟩ => ⟨g, h1, Nat.le_trans (below_new wr _).size h2⟩)
                       clear hx2 hm2 hb2))
                  refine ⟨⟨k2 + 1, x2, by omega, by go_num, rfl, HX2.out, HMK.out.step HM2.out HXB.out, ?_⟩, by simp [intOf]; omega⟩
                  rcases HB2.out with e | ⟨g, e, hg⟩
                  · rw [e]; exact HXB.out
                  · exact .inr ⟨g, e, Nat.le_trans HMK.out.size hg⟩
                · have hk2z : ¬ ((k2 : Int) < 20) := by omega
                  have HX20 : Hid (wr.ownsRow B 3 1 x (bs.length + 20) (List.replicate (bs.length + 20) (encI (markOf i)))) := by
                    have e : k2 = 20 := by omega
                    have := HX.out
                    rw [e] at this
                    exact this
                  have HLg : Hid (Lay wr B W l0 l1 l2 (.slice (some ⟨gl, 0, none⟩) O.length cl) (.slice aw N.length cw) O) := HL.out.lay.marked HMK.out HROW.out
                  obtain ⟨p0, p1⟩ := HLg.out.book
                  obtain ⟨gl', cl', e1, q1, _⟩ := HLg.out.at i v bs HV.out
                  cases e1
                  have HROWg : Hid (wr.ownsRow B 3 1 v bs.length (List.replicate bs.length (encI (markOf i)))) := HMK.out.row HROW.out
                  obtain ⟨ax, cx, rfl⟩ := own_slice HX20.out
                  obtain ⟨wg, rfl⟩ : ∃ wg, wg = wr := ⟨_, rfl⟩
                  clear hk20 HX
                  go_wp2
                  clear p0 p1 q1 hk2z hk2
                  go_loopw [12, 11] (fun s t wr => ∃ (k : Nat) (x : Value), k ≤ 90 ∧ s = .int .i64 k ∧ x = t ∧ wr.ownsRow B 3 1 x (bs.length + k) (List.replicate (bs.length + k) (encI (markOf i))) ∧ Marked v.ownBlock (markOf i) wg wr ∧ (x.ownBlock = v.ownBlock ∨ ∃ g, x.ownBlock = some g ∧ wg.heap.size ≤ g)) (fun s _ _ => 90 - (intOf s).toNat)
                  case atStart => exact ⟨0, _, by omega, rfl, rfl, HROWg.out, Marked.refl _ _ _, .inl rfl⟩
                  case round =>
                    obtain ⟨k2, x, hk2, rfl, rfl, hx, hmk, hxb⟩ := hrel
                    have HY : Hid (wr.ownsRow B 3 1 x (bs.length + k2) (List.replicate (bs.length + k2) (encI (markOf i)))) := hx
                    have HMY : Hid (Marked v.ownBlock (markOf i) wg wr) := hmk
                    have HYB : Hid (x.ownBlock = v.ownBlock ∨ ∃ g, x.ownBlock = some g ∧ wg.heap.size ≤ g) := hxb
                    have HBS3 : Hid (B ≤ wr.heap.size) := Nat.le_trans HBS2.out hmk.size
                    clear hx hmk hxb
                    by_cases hk90 : k2 < 90
                    · have hkz : (k2 : Int) < 90 := by omega
                      go_wp2_with (first
                        | (at_builtin; refine wpList_append_marks rfl _ _ rfl B (markOf i) 1 (by decide) x (bs.length + k2) rfl (own_same HY.out fun b _ hl => (below_new wr _).block b hl) ⟨wr.heap.size, 0, none⟩ 1 rfl (one_src wr _) (by omega) (Nat.le_trans HBS3.out (below_new wr _).size) ?_
                           intro x2 w4 hx2 hm2 hb2
                           have HX2 : Hid (w4.ownsRow B 3 1 x2 (bs.length + k2 + 1) (List.replicate (bs.length + k2 + 1) (encI (markOf i)))) := hx2
                           have HM2 : Hid (Marked x.ownBlock (markOf i) wr w4) := (Marked.of_below (below_new wr _)).trans hm2
                           have HB2 : Hid (x2.ownBlock = x.ownBlock ∨ ∃ g, x2.ownBlock = some g ∧ wr.heap.size ≤ g) := hb2.imp id (fun ⟨g, h1, h2⟩ => ⟨g, h1, Nat.le_trans (below_new wr _).size h2⟩)
                           clear hx2 hm2 hb2))
                      refine ⟨⟨k2 + 1, x2, by omega, by go_num, rfl, HX2.out, HMY.out.step HM2.out HYB.out, ?_⟩, by simp [intOf]; omega⟩
                      rcases HB2.out with e | ⟨g, e, hg⟩
                      · rw [e]; exact HYB.out
                      · exact .inr ⟨g, e, Nat.le_trans HMY.out.size hg⟩
                    · have hk2z : ¬ ((k2 : Int) < 90) := by omega
                      have HY90 : Hid (wr.ownsRow B 3 1 x (bs.length + 90) (List.replicate (bs.length + 90) (encI (markOf i)))) := by
                        have e : k2 = 90 := by omega
                        have := HY.out
                        rw [e] at this
                        exact this
                      have HLh : Hid (Lay wr B W l0 l1 l2 (.slice (some ⟨gl, 0, none⟩) O.length cl) (.slice aw N.length cw) O) := HLg.out.marked HMY.out HROWg.out
                      obtain ⟨p0, p1⟩ := HLh.out.book
                      obtain ⟨gl', cl', e1, q1, _⟩ := HLh.out.at i v bs HV.out
                      cases e1
                      obtain ⟨ay, cy, rfl⟩ := own_slice HY90.out
                      obtain ⟨av, cv, rfl⟩ := own_slice HROWg.out
                      have HLVA : Hid (∀ o, (wr.alloc o).ownsRow B 42 1 lv (3 * i) longs) := fun o => own_same ((HMK.out.trans HMY.out).keep HL.out.rowG fun k hk e => by
                        have h1 := HL.out.fresh k hk
                        have h2 := HL.out.oldI i _ bs k HV.out e
                        omega) fun k _ hk => (below_new wr _).block k hk
                      obtain ⟨wh, rfl⟩ : ∃ wh, wh = wr := ⟨_, rfl⟩
                      clear hk90 HY
                      go_wp2_with (first
                        | (at_builtin; refine wpList_append_lies _ rfl _ _ 28 rfl B 42 i7 (.slice none 0 0) 1 24 Try.underlying28 hi7 hz70 hz71 hz72 rfl (by decide) lv (3 * i) longs rfl (HLVA.out _) ⟨wh.heap.size, 0, none⟩ 3 3 [.slice av bs.length cv, .slice ax (bs.length + 20) cx, .slice ay (bs.length + 90) cy] rfl rfl (fun j u hj => by rw [add_at, row_cell (heap_alloc_last wh _), Nat.zero_add]; simpa using hj) (fun u hu => by simp at hu; rcases hu with rfl | rfl | rfl <;> rfl) (by decide) (by unfold maxLen; omega) (by omega) (by have := HBS3.out; simp; omega) _ rfl ?_
                           intro gL cL wL hoL hgL hatL hltL
                           have HN : Hid (L4 w w3.heap.size B W l0 l1 l2 (.slice (some ⟨gl, 0, none⟩) O.length cl) (.slice aw N.length cw) O (i + 1) (.slice (some ⟨gL, 0, none⟩) (3 * i + 3) cL) (longs ++ [.slice av bs.length cv, .slice ax (bs.length + 20) cx, .slice ay (bs.length + 90) cy]) wL) := HL.out.next HAL.out HV.out HMK.out HX20.out HXB.out HMY.out HY90.out HYB.out hoL hgL hatL
                           clear hoL hgL hatL hltL))
                      exact ⟨⟨i + 1, _, _, by omega, by go_num, rfl, HN.out⟩, by simp [intOf]; omega⟩
            · have hiz : ¬ (i : Int) < (O.length : Int) := by omega
              have HLL : Hid (L4 w w3.heap.size B W l0 l1 l2 (.slice al O.length cl) (.slice aw N.length cw) O O.length lv longs wr) := by
                have e : i = O.length := by omega
                rw [e] at hL
                exact hL
              obtain ⟨aL, cL, rfl⟩ := own_slice HLL.out.rowG
              obtain ⟨w5, rfl⟩ : ∃ w5, w5 = wr := ⟨_, rfl⟩
              clear hL HL
              go_wp2
              clear p0 p1 hlt hi hiz
              obtain ⟨nL, hnL⟩ : ∃ nL, nL = 3 * O.length := ⟨_, rfl⟩
              rw [← hnL]
              have HNL : Hid (nL = 3 * O.length ∧ nL ≤ 12582912) := ⟨hnL, by omega⟩
              have HAT : Hid (∀ i, i < nL → ∃ u n g, aL = some ⟨g, 0, none⟩ ∧ w5.cell? ⟨g, i, none⟩ = some u ∧ w5.ownsRow B 3 1 u n (List.replicate n (encI (-7 - ((i / 3 : Nat) : Int)))) ∧ n ≤ 70000) := fun i hi => by
                obtain ⟨u, n, h1, h2, h3⟩ := HLL.out.any (i := i) (by omega) HBL.out
                obtain ⟨gG, cG, e, q⟩ := rowB_at HLL.out.rowG i u h1
                cases e
                exact ⟨u, n, gG, rfl, q, h2, h3⟩
              have HBF : Hid (Below B w w5) := HLL.out.below
              clear hnL HLL HAL HBL hil hbase hs1 hi7 hz70 hz71 hz72
              go_loopw [13] (fun s wr => ∃ i : Nat, i ≤ nL ∧ s = .int .i64 i ∧ ∃ q, wr = w5.drewN q) (fun s _ => nL - (intOf s).toNat)
              case atStart => exact ⟨0, by omega, rfl, 0, rfl⟩
              case round =>
                obtain ⟨i, hi, rfl, q, rfl⟩ := hrel
                have hnb : (nL : Int) ≤ 12582912 := by have := HNL.out.2; omega
                by_cases hlt : i < nL
                · have hiz : (i : Int) < (nL : Int) := by omega
                  obtain ⟨u, n, g, rfl, hu, hrow, hn⟩ := HAT.out i hlt
                  obtain ⟨au, cu, rfl⟩ := own_slice hrow
                  obtain ⟨e, he⟩ : ∃ e : Nat, e = i / 3 := ⟨_, rfl⟩
                  rw [← he] at hrow
                  have HROW : Hid (w5.ownsRow B 3 1 (.slice au n cu) n (List.replicate n (encI (-7 - (e : Int))))) := hrow
                  have m1 : (i : Int).tdiv 3 = (e : Int) := by rw [Int.tdiv_eq_ediv_of_nonneg (by omega)]; omega
                  have m2 : (i : Int) / 3 = (e : Int) := by omega
                  have m3 : (e : Int) ≤ (i : Int) := by omega
                  have hnz : (n : Int) ≤ 70000 := by omega
                  clear hrow he
                  go_wp2
                  go_loopw [14] (fun s wr => ∃ k : Nat, k ≤ n ∧ s = .int .i64 k ∧ ∃ q, wr = w5.drewN q) (fun s _ => n - (intOf s).toNat)
                  case atStart => exact ⟨0, by omega, rfl, _, rfl⟩
                  case round =>
                    obtain ⟨k, hk, rfl, q, rfl⟩ := hrel
                    by_cases hkn : k < n
                    · have hkz : (k : Int) < (n : Int) := by omega
                      obtain ⟨gu, cu', e1, hc⟩ := row_mark HROW.out hkn
                      cases e1
                      go_wp2_with fail
                      exact ⟨⟨k + 1, by omega, by go_num, _, rfl⟩, by simp [intOf]; omega⟩
                    · have hkz : ¬ (k : Int) < (n : Int) := by omega
                      go_wp2_with fail
                      exact ⟨⟨i + 1, by omega, by go_num, _, rfl⟩, by simp [intOf]; omega⟩
                · have hiz : ¬ (i : Int) < (nL : Int) := by omega
                  go_wp2
                  go_ret
                  exact ⟨rfl, below_draws HBF.out q⟩
end Go.Proofs.Yteajgodpdfcioaa
