/- ends: its walk. -/
import Derived.Test.YtaehchijeinloaaOut4
import Derived.BigQuiet
namespace Go.Proofs.Ytaehchijeinloaa
open Go.RowKit

set_option maxHeartbeats 3200000 in
set_option maxRecDepth 100000 in
theorem ends_any {b : Nat} {w : World} {r : Ix → Option Rw} {vl vw : Value} {its wants : List Ko} (hE : Es b w w r vl vw its) (hw : w.ownsRow (b + 1) 26 2 vw its.length (flat wants)) (hwl : wants.length = its.length)
    (hWK : ∀ (j : Nat) e e', its[j]? = some e → wants[j]? = some e' → KidsAt w.heap.size w (.agg #[e.vp, e.vk]) e.ps e.F ∧ KidsAt w.heap.size w (.agg #[e'.vp, e'.vk]) e'.ps e'.F ∧ kd e.ps e.F = kd e'.ps e'.F)
    (hP : PAt r its fun _ e => e.ps.map encI) (hKA : KAt r its) (hY : YAt r (keysAll its) fun _ e => e.k.map encB) (hN : ∀ k n, 4 ≤ k → r (k, n) = none)
    (hil : its.length ≤ 1000) (hbp : ∀ e ∈ its, e.ps.length ≤ 8589934592) (hbf : (keysAll its).length ≤ 34359738368) (hbk : ∀ e ∈ keysAll its, e.k.length ≤ 8589934592) :
    Calls Try.prog 19 #[.pointer (some ⟨b, 0, none⟩)] w fun e w' => e = .returned (.bool true) ∧ Below (b + 1) w w' := by
  have HE : Hid (Es b w w r vl vw its) := hE
  have HW : Hid (w.ownsRow (b + 1) 26 2 vw its.length (flat wants)) := hw
  have HWL : Hid (wants.length = its.length) := hwl
  have HP : Hid (PAt r its fun _ e => e.ps.map encI) := hP
  have HKA : Hid (KAt r its) := hKA
  have HY : Hid (YAt r (keysAll its) fun _ e => e.k.map encB) := hY
  have HN : Hid (∀ k n, 4 ≤ k → r (k, n) = none) := hN
  have HBP : Hid _ := hbp
  have HBF : Hid _ := hbf
  have HBK : Hid _ := hbk
  have HS : Hid (∀ (j : Nat) e e', its[j]? = some e → wants[j]? = some e' → ∀ W, Below w.heap.size w W → Calls Try.prog 27 #[.agg #[e.vp, e.vk], .agg #[e'.vp, e'.vk]] W fun x w' => ∃ u, x = .returned u ∧ u = .bool true ∧ Below W.heap.size W w') := fun j e e' h1 h2 W hW => by
    obtain ⟨k1, k2, k3⟩ := hWK j e e' h1 h2
    refine (same_any (k1.here hW) (k2.here hW)).mono ?_
    rintro x w' ⟨rfl, hb⟩
    exact ⟨_, rfl, by simp [k3], hb⟩
  obtain ⟨al, cl, rfl⟩ := own_form hE.rowL
  obtain ⟨aw, cw, rfl⟩ := own_form hw
  clear hE hw hwl hP hKA hY hN hbp hbf hbk hWK
  go_enter Try.func19, Try.ntmps19
  go_wp2
  go_loopw [3] (fun s wr => ∃ i : Nat, i ≤ its.length ∧ s = .int .i64 i ∧ Below w.heap.size w wr) (fun s _ => its.length - (intOf s).toNat)
  case atStart => exact ⟨0, by omega, rfl, Below.refl _ _⟩
  case round =>
    obtain ⟨i, hi, rfl, hb⟩ := hrel
    have HB : Hid (Below w.heap.size w wr) := hb
    obtain ⟨p0, p1⟩ := (HE.out.here hb).cells
    by_cases hlt : i < its.length
    · have hiz : (i : Int) < (its.length : Int) := by omega
      obtain ⟨e, he⟩ : ∃ x, its[i]? = some x := ⟨_, List.getElem?_eq_getElem hlt⟩
      obtain ⟨e', he'⟩ : ∃ x, wants[i]? = some x := ⟨_, List.getElem?_eq_getElem (by rw [HWL.out]; exact hlt)⟩
      obtain ⟨gl, cl', e1, _, _, q0, q1⟩ := row2_at (HE.out.here hb).rowL he
      cases e1
      obtain ⟨gw, cw', e2, _, _, s0, s1⟩ := row2_at (own_same HW.out fun k _ hl => hb.block k hl) he'
      cases e2
      have HC : Hid (∀ W, Below w.heap.size w W → Calls Try.prog 27 #[.agg #[e.vp, e.vk], .agg #[e'.vp, e'.vk]] W fun x w' => ∃ u, x = .returned u ∧ u = .bool true ∧ Below W.heap.size W w') := HS.out i e e' he he'
      clear hb he he'
      go_upto_region 4 with fail
      go_cut [48] (fun s wx => s = .bool false ∧ Below w.heap.size w wx)
      case first =>
        go_region_law
          (first
            | (refine step_call_two (by rfl) 27 (Go.Proofs.enters_of Try.func27 (by kernel_rfl) rfl) _ _ _ _ (by rfl) _ _ _ (by rfl) (by rfl) (by exact HC.out _ (by first | exact HB.out | exact HB.out.trans ((Below.refl _ _).drew.mono HB.out.size))) ?_
               rintro vg w9 ⟨rfl, hb9⟩
               have HB9 : Hid (Below w.heap.size w w9) := by first | exact HB.out.trans (hb9.mono HB.out.size) | exact HB.out.trans (((Below.refl _ _).drew.trans hb9).mono HB.out.size)
               clear hb9))
        all_goals
          go_wp2_with fail
          go_meet
          exact ⟨rfl, HB9.out⟩
      case rest =>
        obtain ⟨rfl, hbx⟩ := hcut
        have HBX : Hid (Below w.heap.size w wc) := hbx
        clear hbx
        go_wp2_with fail
        exact ⟨⟨i + 1, by omega, by go_num, HBX.out⟩, by simp [intOf]; omega⟩
    · obtain rfl : i = its.length := by omega
      obtain ⟨W1, hW1⟩ : ∃ W1, W1 = wr := ⟨_, rfl⟩
      rw [← hW1] at HB p0 p1 ⊢
      clear hW1 hb HS HW HWL
      have H2 : Hid (∃ r', E2 b w r' (.slice al its.length cl) (.slice aw its.length cw) its 0 (.slice none 0 0) W1) :=
        ⟨_, (HE.out.here HB.out).more (4, 0) ⟨27, 1, .slice none 0 0, 0, []⟩ (by simp) (fun j hj => by rw [cls_one (by simp) (by simp) hj]; exact HN.out _ _ (by simp)) (Below.refl _ _) (World.ownsRow_nil _ _ _ _), fun j e he => by rw [put_other (by simp), HP.out j e he]; simp, fun j e he => by rw [put_other (by simp)]; exact HKA.out j e he, fun j e he => by rw [put_other (by simp)]; exact HY.out j e he, by rw [put_same]; rfl, fun k n hk => by rw [put_other (fun e => by have := congrArg Prod.fst e; simp at this; omega)]; exact HN.out k n (by omega)⟩
      obtain ⟨i7, hi7, hz70, hz71, hz72⟩ := infoB'
      go_wp2_with fail
      clear p0 p1 HP HKA HY HN HE hlt hi
      go_loopw [5, 4] (fun s t wr => ∃ (i : Nat) (lv : Value) (r2 : Ix → Option Rw), i ≤ its.length ∧ s = .int .i64 i ∧ lv = t ∧ E2 b w r2 (.slice al its.length cl) (.slice aw its.length cw) its i lv wr) (fun s _ _ => its.length - (intOf s).toNat)
      case atStart =>
        obtain ⟨r', h⟩ := H2.out
        exact ⟨0, _, r', by omega, rfl, rfl, h⟩
      case round =>
        obtain ⟨i, lv, r2, hi, rfl, rfl, h2⟩ := hrel
        have HE2 : Hid (E2 b w r2 (.slice al its.length cl) (.slice aw its.length cw) its i lv wr) := h2
        obtain ⟨p0, p1⟩ := h2.es.cells
        by_cases hlt : i < its.length
        · as_aux_lemma => -- SKIP2
          have hiz : (i : Int) < (its.length : Int) := by omega
          obtain ⟨e, he⟩ : ∃ x, its[i]? = some x := ⟨_, List.getElem?_eq_getElem hlt⟩
          have HI : Hid (its[i]? = some e) := he
          have hrow : wr.ownsRow (b + 1) 3 1 e.vp e.ps.length (e.ps.map encI) := by
            have := h2.es.hp.own _ _ (h2.p i e he)
            simp only [Nat.lt_irrefl, if_false] at this
            exact this
          have HROW : Hid (wr.ownsRow (b + 1) 3 1 e.vp e.ps.length (e.ps.map encI)) := hrow
          have hpl : e.ps.length ≤ 8589934592 := HBP.out e (List.mem_of_getElem? he)
          obtain ⟨W2, hW2⟩ : ∃ W2, W2 = wr := ⟨_, rfl⟩
          rw [← hW2] at HE2 HROW p0 p1 ⊢
          clear hW2 h2 he hrow
          have hwrap : IntKind.i64.wrap (-1 - (i : Int)) = -1 - (i : Int) := wrapk_of _ (by omega) (by omega)
          go_wp2_with fail
          clear p0 p1
          go_loopw [6] (fun s wx => ∃ k : Nat, k ≤ e.ps.length ∧ s = .int .i64 k ∧ wx.ownsRow (b + 1) 3 1 e.vp e.ps.length (partI (encI (-1 - (i : Int))) (e.ps.map encI) k) ∧ Kept (fun q => e.vp.ownBlock = some q) W2 wx) (fun s _ => e.ps.length - (intOf s).toNat)
          case atStart => exact ⟨0, by omega, rfl, by rw [partI_zero]; exact HROW.out, Kept.refl _ _⟩
          case round =>
            obtain ⟨k, hk, rfl, hown, hkp⟩ := hrel
            have HOWN : Hid (wr.ownsRow (b + 1) 3 1 e.vp e.ps.length (partI (encI (-1 - (i : Int))) (e.ps.map encI) k)) := hown
            have HKP : Hid (Kept (fun q => e.vp.ownBlock = some q) W2 wr) := hkp
            have hes := HE2.out.es.turn (1, i) ⟨3, 1, e.vp, e.ps.length, partI (encI (-1 - (i : Int))) (e.ps.map encI) k⟩ (HE2.out.p i e HI.out) (by simp) (fun j hj hn => absurd (cls_one (by simp) (by simp) hj) hn) hkp (fun k hk => hk) hown (fun k hk => .inl hk)
            obtain ⟨p0, p1⟩ := hes.cells
            obtain ⟨gl, cl', e1, hglB, ⟨curl, hcurl⟩, q0, q1⟩ := row2_at hes.rowL HI.out
            cases e1
            obtain ⟨ap, cp, hvp⟩ := own_form hown
            by_cases hkl : k < e.ps.length
            · have hkz : (k : Int) < (e.ps.length : Int) := by omega
              have hvq : ∃ q cv, e.vp = .slice (some ⟨q, 0, none⟩) e.ps.length cv := by
                rcases id hown.2 with ⟨_, e⟩ | ⟨q, cv, cur, hvq, _⟩
                · omega
                · exact ⟨q, cv, hvq⟩
              obtain ⟨q, cv, hvq⟩ := hvq
              have HVQ : Hid (e.vp = .slice (some ⟨q, 0, none⟩) e.ps.length cv) := hvq
              rw [hvq] at q0 hown
              obtain ⟨z, hz⟩ : ∃ z, (partI (encI (-1 - (i : Int))) (e.ps.map encI) k)[k]? = some z := ⟨_, List.getElem?_eq_getElem (by rw [partI_length (by simp; omega)]; simpa using hkl)⟩
              have hcell := hown.cellAt (j := k) (by omega)
              have hfz := hown.frozenAt (j := k)
              rw [hz] at hcell
              have HOWN2 : Hid (wr.ownsRow (b + 1) 3 1 (.slice (some ⟨q, 0, none⟩) e.ps.length cv) e.ps.length (partI (encI (-1 - (i : Int))) (e.ps.map encI) k)) := hown
              clear hown hkp hes hz hcurl hvp hvq hglB q1
              go_wp2
              obtain ⟨s1, _⟩ := HOWN2.out.stored k (encI (-1 - (i : Int)))
              rw [partI_next (by simpa using hkl), ← HVQ.out] at s1
              exact ⟨⟨k + 1, by omega, by go_num, s1, HKP.out.trans (setCell_kept _) (fun x _ hx => by rw [HVQ.out]; exact congrArg some hx.symm)⟩, by simp [intOf]; omega⟩
            · have hke : k = e.ps.length := by omega
              have HFULL : Hid (wr.ownsRow (b + 1) 3 1 e.vp e.ps.length (List.replicate e.ps.length (encI (-1 - (i : Int))))) := by
                have := hown
                rw [partI_all (by simpa using hke), List.length_map] at this
                exact this
              have HLV : Hid (wr.ownsRow (b + 1) 27 1 lv (keysAll (its.take i)).length ((keysAll (its.take i)).map Kc.v)) := hes.hp.get (i := (4, 0)) (by rw [put_other (by simp)]; exact HE2.out.ks)
              have hvk : wr.ownsRow (b + 1) 27 1 e.vk e.F.length (e.F.map Kc.v) := hes.hp.get (i := (2, i)) (by rw [put_other (by simp)]; exact HE2.out.k i e HI.out)
              have HVK : Hid (CellsAt wr.heap.size wr e.vk (e.F.map Kc.v)) := own_cells hvk (by simp)
              have HONE : Hid (∀ x ∈ e.F.map Kc.v, x.oneCell' = true) := fun x hx => by
                obtain ⟨y, hy, rfl⟩ := List.mem_map.1 hx
                obtain ⟨n, hn⟩ := List.getElem?_of_mem (show y ∈ keysAll its from List.mem_flatMap.2 ⟨e, List.mem_of_getElem? HI.out, hy⟩)
                obtain ⟨a, c, h⟩ := own_form (HE2.out.es.hp.own _ _ (HE2.out.y n y hn))
                show Value.oneCell' y.v = true
                rw [show y.v = .slice a _ c from h]; rfl
              have hsz : (keysAll (its.take i)).length + e.F.length ≤ 34359738368 := Nat.le_trans (key_bound HI.out) HBF.out
              have HSZ : Hid (b + 1 ≤ wr.heap.size) := hes.hB
              rw [hvp] at q0
              clear hown hkp hes hcurl hglB hvk hvp
              go_wp2_with (at_builtin; go_loud (
                refine wpList_append_hp rfl _ _ 24 rfl (b + 1) 27 i7 (.slice none 0 0) 24 Try.underlying24 hi7 hz70 hz71 hz72 rfl lv _ _ rfl HLV.out e.vk (e.F.map Kc.v) rfl HVK.out HONE.out (by rw [List.length_map]; unfold maxLen; omega) (by rw [List.length_map]; omega) HSZ.out ?_
                intro v9 w9 ho9 hk9 hb9
                have HO9 : Hid _ := ho9
                have HK9 : Hid _ := hk9
                have HB9 : Hid _ := hb9
                clear ho9 hk9 hb9))
              obtain ⟨r', hr'⟩ := HE2.out.next HI.out HKP.out HFULL.out HK9.out HO9.out HB9.out
              exact ⟨⟨i + 1, _, r', by omega, by go_num, rfl, hr'⟩, by simp [intOf]; omega⟩
        · obtain rfl : i = its.length := by omega
          have H4 : Hid (E4 b w r2 (.slice al its.length cl) (.slice aw its.length cw) its 0 lv wr) := h2.last
          obtain ⟨ak, ck, rfl⟩ := own_form (H4.out.es.hp.get H4.out.ks)
          obtain ⟨W3, hW3⟩ : ∃ W3, W3 = wr := ⟨_, rfl⟩
          rw [← hW3] at H4 p0 p1 ⊢
          clear hW3 h2 HE2 H2
          obtain ⟨M, hM⟩ : ∃ M, M = (keysAll its).length := ⟨_, rfl⟩
          have HM : Hid (M = (keysAll its).length) := hM
          have hMb : M ≤ 34359738368 := by rw [hM]; exact HBF.out
          rw [← hM] at H4 ⊢
          clear hM hlt hi
          go_wp2_with fail
          clear p0 p1
          go_loopw [7] (fun s wx => ∃ (i : Nat) (r4 : Ix → Option Rw), i ≤ M ∧ s = .int .i64 i ∧ E4 b w r4 (.slice al its.length cl) (.slice aw its.length cw) its i (.slice ak M ck) wx) (fun s _ => M - (intOf s).toNat)
          case atStart => exact ⟨0, r2, by omega, rfl, H4.out⟩
          case round =>
            obtain ⟨i, r4, hi, rfl, h4⟩ := hrel
            have HE4 : Hid (E4 b w r4 (.slice al its.length cl) (.slice aw its.length cw) its i (.slice ak M ck) wr) := h4
            by_cases hlt : i < M
            · as_aux_lemma => -- SKIP4
              have hiz : (i : Int) < (M : Int) := by omega
              obtain ⟨e, he⟩ : ∃ x, (keysAll its)[i]? = some x := ⟨_, List.getElem?_eq_getElem (by rw [← HM.out]; exact hlt)⟩
              have HI : Hid ((keysAll its)[i]? = some e) := he
              have hrow : wr.ownsRow (b + 1) 5 1 e.v e.k.length (e.k.map encB) := by
                have := h4.es.hp.get (h4.y i e he)
                simp only [Nat.lt_irrefl, if_false] at this
                exact this
              have HROW : Hid (wr.ownsRow (b + 1) 5 1 e.v e.k.length (e.k.map encB)) := hrow
              have hkl : e.k.length ≤ 8589934592 := HBK.out e (List.mem_of_getElem? he)
              have HMK : Hid (1 + (i : Int) % 251 = ((mkB i).toNat : Int)) := mkB_int i
              have HJ : Hid (((keysAll its).map Kc.v)[i]? = some e.v) := by rw [Hid, List.getElem?_map, he]; rfl
              obtain ⟨W4, hW4⟩ : ∃ W4, W4 = wr := ⟨_, rfl⟩
              rw [← hW4] at HE4 HROW ⊢
              clear hW4 h4 he hrow
              go_wp2_with fail
              go_loopw [8] (fun s wx => ∃ k : Nat, k ≤ e.k.length ∧ s = .int .i64 k ∧ wx.ownsRow (b + 1) 5 1 e.v e.k.length (partI (encB (mkB i)) (e.k.map encB) k) ∧ Kept (fun q => e.v.ownBlock = some q) W4 wx) (fun s _ => e.k.length - (intOf s).toNat)
              case atStart => exact ⟨0, by omega, rfl, by rw [partI_zero]; exact HROW.out, Kept.refl _ _⟩
              case round =>
                obtain ⟨k, hk, rfl, hown, hkp⟩ := hrel
                have HOWN : Hid (wr.ownsRow (b + 1) 5 1 e.v e.k.length (partI (encB (mkB i)) (e.k.map encB) k)) := hown
                have HKP : Hid (Kept (fun q => e.v.ownBlock = some q) W4 wr) := hkp
                obtain ⟨gk, ck', e1, q0⟩ := row1_at (HE4.out.mid HI.out hkp hown) HJ.out
                cases e1
                obtain ⟨ap, cp, hvp⟩ := own_form hown
                by_cases hkl2 : k < e.k.length
                · have hkz : (k : Int) < (e.k.length : Int) := by omega
                  have hvq : ∃ q cv, e.v = .slice (some ⟨q, 0, none⟩) e.k.length cv := by
                    rcases id hown.2 with ⟨_, e⟩ | ⟨q, cv, cur, hvq, _⟩
                    · omega
                    · exact ⟨q, cv, hvq⟩
                  obtain ⟨q, cv, hvq⟩ := hvq
                  have HVQ : Hid (e.v = .slice (some ⟨q, 0, none⟩) e.k.length cv) := hvq
                  rw [hvq] at q0 hown
                  obtain ⟨z, hz⟩ : ∃ z, (partI (encB (mkB i)) (e.k.map encB) k)[k]? = some z := ⟨_, List.getElem?_eq_getElem (by rw [partI_length (by simp; omega)]; simpa using hkl2)⟩
                  have hcell := hown.cellAt (j := k) (by omega)
                  have hfz := hown.frozenAt (j := k)
                  rw [hz] at hcell
                  have HOWN2 : Hid (wr.ownsRow (b + 1) 5 1 (.slice (some ⟨q, 0, none⟩) e.k.length cv) e.k.length (partI (encB (mkB i)) (e.k.map encB) k)) := hown
                  clear hown hkp hz hvp hvq
                  go_wp2
                  rw [HMK.out]
                  obtain ⟨s1, _⟩ := HOWN2.out.stored k (encB (mkB i))
                  rw [partI_next (by simpa using hkl2), ← HVQ.out] at s1
                  exact ⟨⟨k + 1, by omega, by go_num, s1, HKP.out.trans (setCell_kept _) (fun x _ hx => by rw [HVQ.out]; exact congrArg some hx.symm)⟩, by simp [intOf]; omega⟩
                · have hke : k = e.k.length := by omega
                  have HFULL : Hid (wr.ownsRow (b + 1) 5 1 e.v e.k.length (List.replicate e.k.length (encB (mkB i)))) := by
                    have := hown
                    rw [partI_all (by simpa using hke), List.length_map] at this
                    exact this
                  rw [hvp] at q0
                  clear hown hkp hvp
                  go_wp2_with fail
                  obtain ⟨r', hr'⟩ := HE4.out.next HI.out HKP.out HFULL.out
                  exact ⟨⟨i + 1, r', by omega, by go_num, hr'⟩, by simp [intOf]; omega⟩
            · obtain rfl : i = M := by omega
              have H6 : Hid (∃ r', E6 b w r' (.slice al its.length cl) (.slice aw its.length cw) its 0 (.slice ak i ck) (.slice none 0 0) [] wr) := by
                rw [HM.out] at h4
                have := h4.last
                rw [← HM.out] at this
                exact this
              obtain ⟨W5, hW5⟩ : ∃ W5, W5 = wr := ⟨_, rfl⟩
              rw [← hW5] at H6 ⊢
              obtain ⟨i5, hi5, hz50, hz51, hz52⟩ := info5'
              clear hW5 h4 HE4 H4 hlt hi
              go_wp2_with fail
              go_loopw [10, 9] (fun s t wx => ∃ (k : Nat) (lg : Value) (gs : List Value) (r6 : Ix → Option Rw), k ≤ i ∧ s = .int .i64 k ∧ lg = t ∧ E6 b w r6 (.slice al its.length cl) (.slice aw its.length cw) its k (.slice ak i ck) lg gs wx) (fun s _ _ => i - (intOf s).toNat)
              case atStart =>
                obtain ⟨r', h⟩ := H6.out
                exact ⟨0, _, [], r', by omega, rfl, rfl, h⟩
              case round =>
                obtain ⟨k, lg, gs, r6, hk, rfl, rfl, h6⟩ := hrel
                have HE6 : Hid (E6 b w r6 (.slice al its.length cl) (.slice aw its.length cw) its k (.slice ak i ck) lg gs wr) := h6
                by_cases hlt : k < i
                · as_aux_lemma => -- SKIP6
                  have hkz : (k : Int) < (i : Int) := by omega
                  obtain ⟨e, he⟩ : ∃ x, (keysAll its)[k]? = some x := ⟨_, List.getElem?_eq_getElem (by rw [← HM.out]; exact hlt)⟩
                  have HI : Hid ((keysAll its)[k]? = some e) := he
                  have HROW : Hid (wr.ownsRow (b + 1) 5 1 e.v e.k.length (List.replicate e.k.length (encB (mkB k)))) := h6.es.hp.get (h6.y k e he)
                  have hkl : e.k.length ≤ 8589934592 := HBK.out e (List.mem_of_getElem? he)
                  obtain ⟨gk, ck', e1, q0⟩ := row1_at (h6.es.hp.get h6.ks) (show ((keysAll its).map Kc.v)[k]? = some e.v by rw [List.getElem?_map, he]; rfl)
                  rw [← HM.out] at e1
                  cases e1
                  obtain ⟨W6, hW6⟩ : ∃ W6, W6 = wr := ⟨_, rfl⟩
                  rw [← hW6] at HE6 HROW q0 ⊢
                  have HBS : Hid (b + 1 ≤ W6.heap.size) := by rw [hW6]; exact h6.es.hB
                  clear hW6 h6 he
                  go_wp2_with fail
                  clear q0
                  go_loopw [12, 11] (fun s t wx => ∃ (j : Nat) (x : Value), j ≤ 20 ∧ s = .int .i64 j ∧ x = t ∧ wx.ownsRow (b + 1) 5 1 x (e.k.length + j) (List.replicate (e.k.length + j) (encB (mkB k))) ∧ Marked e.v.ownBlock (mkB k) W6 wx ∧ (x.ownBlock = e.v.ownBlock ∨ ∃ g, x.ownBlock = some g ∧ W6.heap.size ≤ g)) (fun s _ _ => 20 - (intOf s).toNat)
                  case atStart => exact ⟨0, _, by omega, rfl, rfl, HROW.out, Marked.refl _ _ _, .inl rfl⟩
                  case round =>
                    obtain ⟨j, x, hj, rfl, rfl, hx, hmk, hxb⟩ := hrel
                    have HX : Hid (wr.ownsRow (b + 1) 5 1 x (e.k.length + j) (List.replicate (e.k.length + j) (encB (mkB k)))) := hx
                    have HMK : Hid (Marked e.v.ownBlock (mkB k) W6 wr) := hmk
                    have HXB : Hid (x.ownBlock = e.v.ownBlock ∨ ∃ g, x.ownBlock = some g ∧ W6.heap.size ≤ g) := hxb
                    have HBS2 : Hid (b + 1 ≤ wr.heap.size) := Nat.le_trans HBS.out hmk.size
                    clear hx hmk hxb
                    by_cases hj20 : j < 20
                    · have hjz : (j : Int) < 20 := by omega
                      go_wp2_with (first
                        | (at_builtin; refine wpList_append_marks rfl _ _ rfl (b + 1) (mkB k) 1 (by decide) x (e.k.length + j) rfl (own_same HX.out fun b _ hl => (below_new wr _).block b hl) ⟨wr.heap.size, 0, none⟩ 1 rfl (one_srcB wr k) (by omega) (Nat.le_trans HBS2.out (below_new wr _).size) ?_
                           intro x2 w4 hx2 hm2 hb2
                           have HX2 : Hid (w4.ownsRow (b + 1) 5 1 x2 (e.k.length + j + 1) (List.replicate (e.k.length + j + 1) (encB (mkB k)))) := hx2
                           have HM2 : Hid (Marked x.ownBlock (mkB k) wr w4) := (Marked.of_below (below_new wr _)).trans hm2
                           have HB2 : Hid (x2.ownBlock = x.ownBlock ∨ ∃ g, x2.ownBlock = some g ∧ wr.heap.size ≤ g) := hb2.imp id (fun ⟨g, h1, h2⟩ => ⟨g, h1, Nat.le_trans (below_new wr _).size h2⟩)
                           clear hx2 hm2 hb2))
                      refine ⟨⟨j + 1, x2, by omega, by go_num, rfl, HX2.out, HMK.out.step HM2.out HXB.out, ?_⟩, by simp [intOf]; omega⟩
                      rcases HB2.out with e | ⟨g, e, hg⟩
                      · rw [e]; exact HXB.out
                      · exact .inr ⟨g, e, Nat.le_trans HMK.out.size hg⟩
                    · have hjz : ¬ ((j : Int) < 20) := by omega
                      have HX20 : Hid (wr.ownsRow (b + 1) 5 1 x (e.k.length + 20) (List.replicate (e.k.length + 20) (encB (mkB k)))) := by
                        have e : j = 20 := by omega
                        have := HX.out
                        rw [e] at this
                        exact this
                      have HLG : Hid (wr.ownsRow (b + 1) 27 1 lg k gs) := HE6.out.long HI.out HMK.out
                      clear HX
                      obtain ⟨ax, cx, rfl⟩ := own_form HX20.out
                      go_wp2_with (at_builtin; go_loud (
                            refine wpList_append_hp rfl _ _ 24 rfl (b + 1) 27 i7 (.slice none 0 0) 24 Try.underlying24 hi7 hz70 hz71 hz72 rfl lg _ _ rfl (own_same HLG.out fun b _ hl => (below_new wr _).block b hl) (.slice (some ⟨wr.heap.size, 0, none⟩) 1 1) [.slice ax (e.k.length + 20) cx] rfl (one_cells wr _ _) (fun y hy => by rw [List.mem_singleton.1 hy]; exact own_oneV HX20.out) (by show k + 1 ≤ maxLen; unfold maxLen; omega) (by show (k + 1) * 24 ≤ 140737488355328; omega) (Nat.le_trans HBS2.out (below_new wr _).size) ?_
                            intro v9 w9 ho9 hk9 hb9
                            have HO9 : Hid _ := ho9
                            have HK9 : Hid _ := hk9
                            have HB9 : Hid _ := hb9
                            clear ho9 hk9 hb9))
                      obtain ⟨r', hr'⟩ := HE6.out.next HI.out HMK.out HX20.out HXB.out HK9.out HO9.out HB9.out
                      exact ⟨⟨k + 1, _, _, r', by omega, by go_num, rfl, hr'⟩, by simp [intOf]; omega⟩
                · obtain rfl : k = i := by omega
                  have H8 : Hid (∃ r', E8 b w r6 r' (.slice al its.length cl) (.slice aw its.length cw) its 0 (.slice none 0 0) (.slice none 0 0) [] [] wr) := h6.last
                  obtain ⟨ag, cg, rfl⟩ := own_form (h6.es.hp.get h6.ls)
                  obtain ⟨p0, p1⟩ := h6.es.cells
                  obtain ⟨W7, hW7⟩ : ∃ W7, W7 = wr := ⟨_, rfl⟩
                  rw [← hW7] at HE6 H8 p0 p1 ⊢
                  obtain ⟨i0, hi0, hz0, hz1, hz2⟩ := infoI'
                  obtain ⟨is, his, hzs0, hzs1, hzs2⟩ := infoIs'
                  obtain ⟨it, hit, hzt0, hzt1, hzt2⟩ := infoBs'
                  clear hW7 h6 H6 hlt hk hi5 hz50 hz51 hz52
                  go_wp2_with fail
                  clear p0 p1
                  go_loopw [15, 13, 14] (fun s t u wx => ∃ (n : Nat) (mo li : Value) (ms qs : List Value) (r8 : Ix → Option Rw), n ≤ its.length ∧ s = .int .i64 n ∧ mo = t ∧ li = u ∧ E8 b w r6 r8 (.slice al its.length cl) (.slice aw its.length cw) its n mo li ms qs wx) (fun s _ _ _ => its.length - (intOf s).toNat)
                  case atStart =>
                    obtain ⟨r', h⟩ := H8.out
                    exact ⟨0, _, _, [], [], r', by omega, rfl, rfl, rfl, h⟩
                  case round =>
                    obtain ⟨n, mo, li, ms, qs, r8, hn, rfl, rfl, rfl, h8⟩ := hrel
                    have HE8 : Hid (E8 b w r6 r8 (.slice al its.length cl) (.slice aw its.length cw) its n mo li ms qs wr) := h8
                    obtain ⟨p0, p1⟩ := h8.es.cells
                    by_cases hlt : n < its.length
                    · as_aux_lemma => -- SKIP8
                      have hnz : (n : Int) < (its.length : Int) := by omega
                      obtain ⟨e, he⟩ : ∃ x, its[n]? = some x := ⟨_, List.getElem?_eq_getElem hlt⟩
                      have HI : Hid (its[n]? = some e) := he
                      have H9 : Hid (E9 b w r6 r8 (.slice al its.length cl) (.slice aw its.length cw) its n mo li ms qs e 0 e.vp e.vk [] wr) := h8.inner (HE6.out.p n e he) (HE6.out.k n e he)
                      have hpl : e.ps.length ≤ 8589934592 := HBP.out e (List.mem_of_getElem? he)
                      have hfl : e.F.length ≤ 34359738368 := by
                        have := key_bound he
                        have := HM.out
                        omega
                      obtain ⟨gl, cl', e1, _, _, q0, q1⟩ := row2_at h8.es.rowL he
                      cases e1
                      have hwrap : IntKind.i64.wrap (-1 - (n : Int)) = -1 - (n : Int) := wrapk_of _ (by omega) (by omega)
                      clear h8 he HE8 H8
                      go_wp2_with fail
                      clear p0 p1 q0 q1
                      go_loopw [18, 16, 17] (fun s t u wx => ∃ (j : Nat) (x y : Value) (us : List Value) (r9 : Ix → Option Rw), j ≤ 20 ∧ s = .int .i64 j ∧ x = t ∧ y = u ∧ E9 b w r6 r9 (.slice (some ⟨gl, 0, none⟩) its.length cl) (.slice aw its.length cw) its n mo li ms qs e j x y us wx) (fun s _ _ _ => 20 - (intOf s).toNat)
                      case atStart => exact ⟨0, _, _, [], _, by omega, rfl, rfl, rfl, H9.out⟩
                      case round =>
                        obtain ⟨j, x, y, us, r9, hj, rfl, rfl, rfl, h9⟩ := hrel
                        have HE9 : Hid (E9 b w r6 r9 (.slice (some ⟨gl, 0, none⟩) its.length cl) (.slice aw its.length cw) its n mo li ms qs e j x y us wr) := h9
                        have HX : Hid (wr.ownsRow (b + 1) 3 1 x (e.ps.length + j) (List.replicate (e.ps.length + j) (encI (-1 - (n : Int))))) := h9.es.hp.get h9.hx
                        have HY : Hid (wr.ownsRow (b + 1) 27 1 y (e.F.length + j) (e.F.map Kc.v ++ us)) := h9.es.hp.get h9.hy
                        have HBS : Hid (b + 1 ≤ wr.heap.size) := h9.es.hB
                        by_cases hj20 : j < 20
                        · have hjz : (j : Int) < 20 := by omega
                          clear h9
                          go_wp2_with (first
                            | (at_builtin; refine wpList_append_hp rfl _ _ 23 rfl (b + 1) 3 i0 (.int .i64 0) 8 Try.underlying23 hi0 hz0 hz1 hz2 rfl x _ _ rfl (own_same HX.out fun b _ hl => (below_new wr _).block b hl) (.slice (some ⟨wr.heap.size, 0, none⟩) 1 1) [.int .i64 (-1 - (n : Int))] rfl (one_cells wr _ _) (fun z hz => by rw [List.mem_singleton.1 hz]; rfl) (by show e.ps.length + j + 1 ≤ maxLen; unfold maxLen; omega) (by show (e.ps.length + j + 1) * 8 ≤ 140737488355328; omega) (Nat.le_trans HBS.out (below_new wr _).size) ?_
                               intro v9 w9 ho9 hk9 hb9
                               have hmid := HE9.out.mid hk9 ho9 hb9
                               have HY9 : Hid _ := hmid.1
                               have HS9 : Hid _ := hmid.2
                               have HO9 : Hid _ := ho9
                               have HK9 : Hid _ := hk9
                               have HB9 : Hid _ := hb9
                               clear ho9 hk9 hb9 hmid)
                            | (at_builtin; refine wpList_append_hp rfl _ _ 24 rfl (b + 1) 27 i7 (.slice none 0 0) 24 Try.underlying24 hi7 hz70 hz71 hz72 rfl y _ _ rfl (own_same HY9.out fun b _ hl => ((below_new w9 _).trans ((below_new (w9.alloc _) _).mono (below_new w9 _).size)).block b hl) (.slice (some ⟨w9.heap.size + 1, 0, none⟩) 1 1) [.slice (some ⟨w9.heap.size, 0, none⟩) 1 1] rfl (one_cellsN (by simp) _ _) (fun z hz => by rw [List.mem_singleton.1 hz]; rfl) (by show e.F.length + j + 1 ≤ maxLen; unfold maxLen; omega) (by show (e.F.length + j + 1) * 24 ≤ 140737488355328; omega) (Nat.le_trans HS9.out (Nat.le_trans (below_new w9 _).size (below_new (w9.alloc _) _).size)) ?_
                               intro v10 w10 ho10 hk10 hb10
                               have HO10 : Hid _ := ho10
                               have HK10 : Hid _ := hk10
                               have HB10 : Hid _ := hb10
                               clear ho10 hk10 hb10))
                          obtain ⟨r', hr'⟩ := HE9.out.next HK9.out HO9.out HB9.out HK10.out HO10.out HB10.out
                          exact ⟨⟨j + 1, _, _, _, r', by omega, by go_num, rfl, rfl, hr'⟩, by simp [intOf]; omega⟩
                        · obtain rfl : j = 20 := by omega
                          have HMO : Hid (wr.ownsRow (b + 1) 23 1 mo n ms) := h9.es.hp.get h9.hm
                          obtain ⟨ax, cx, rfl⟩ := own_form HX.out
                          obtain ⟨ay, cy, rfl⟩ := own_form HY.out
                          clear h9
                          go_wp2_with (first
                            | (at_builtin; refine wpList_append_hp rfl _ _ 67 rfl (b + 1) 23 is (.slice none 0 0) 24 Try.underlying67 his hzs0 hzs1 hzs2 rfl mo _ _ rfl (own_same HMO.out fun b _ hl => (below_new wr _).block b hl) (.slice (some ⟨wr.heap.size, 0, none⟩) 1 1) [.slice ax (e.ps.length + 20) cx] rfl (one_cells wr _ _) (fun z hz => by rw [List.mem_singleton.1 hz]; rfl) (by show n + 1 ≤ maxLen; unfold maxLen; omega) (by show (n + 1) * 24 ≤ 140737488355328; omega) (Nat.le_trans HBS.out (below_new wr _).size) ?_
                               intro v9 w9 ho9 hk9 hb9
                               have hmid := HE9.out.mid2 hk9 ho9 hb9
                               have HY9 : Hid _ := hmid.1
                               have HS9 : Hid _ := hmid.2
                               have HO9 : Hid _ := ho9
                               have HK9 : Hid _ := hk9
                               have HB9 : Hid _ := hb9
                               clear ho9 hk9 hb9 hmid)
                            | (at_builtin; refine wpList_append_hp rfl _ _ 68 rfl (b + 1) 24 it (.slice none 0 0) 24 Try.underlying68 hit hzt0 hzt1 hzt2 rfl li _ _ rfl (own_same HY9.out fun b _ hl => (below_new w9 _).block b hl) (.slice (some ⟨w9.heap.size, 0, none⟩) 1 1) [.slice ay (e.F.length + 20) cy] rfl (one_cells w9 _ _) (fun z hz => by rw [List.mem_singleton.1 hz]; rfl) (by show n + 1 ≤ maxLen; unfold maxLen; omega) (by show (n + 1) * 24 ≤ 140737488355328; omega) (Nat.le_trans HS9.out (below_new w9 _).size) ?_
                               intro v10 w10 ho10 hk10 hb10
                               have HO10 : Hid _ := ho10
                               have HK10 : Hid _ := hk10
                               have HB10 : Hid _ := hb10
                               clear ho10 hk10 hb10))
                          obtain ⟨r', hr'⟩ := HE9.out.last HI.out HK9.out HO9.out HB9.out HK10.out HO10.out HB10.out
                          exact ⟨⟨n + 1, _, _, _, _, r', by omega, by go_num, rfl, rfl, hr'⟩, by simp [intOf]; omega⟩
                    · obtain rfl : n = its.length := by omega
                      obtain ⟨am, cm, rfl⟩ := own_form (h8.es.hp.get h8.hm)
                      obtain ⟨ai, ci, rfl⟩ := own_form (h8.es.hp.get h8.hl)
                      obtain ⟨W8, hW8⟩ : ∃ W8, W8 = wr := ⟨_, rfl⟩
                      rw [← hW8] at HE8 p0 p1 ⊢
                      clear hW8 h8 H8 hn hlt i0 hi0 hz0 hz1 hz2 is his hzs0 hzs1 hzs2 it hit hzt0 hzt1 hzt2
                      go_wp2_with fail
                      clear p0 p1
                      go_loopw [19] (fun s wx => ∃ m : Nat, m ≤ k ∧ s = .int .i64 m ∧ Below W8.heap.size W8 wx) (fun s _ => k - (intOf s).toNat)
                      case atStart => exact ⟨0, by omega, rfl, Below.refl _ _⟩
                      case round =>
                        obtain ⟨m, hm, rfl, hb⟩ := hrel
                        have HBW : Hid (Below W8.heap.size W8 wr) := hb
                        by_cases hlt : m < k
                        · as_aux_lemma => -- SKIP10
                          have hmz : (m : Int) < (k : Int) := by omega
                          obtain ⟨e, he⟩ : ∃ x, (keysAll its)[m]? = some x := ⟨_, List.getElem?_eq_getElem (by rw [← HM.out]; exact hlt)⟩
                          have HI : Hid ((keysAll its)[m]? = some e) := he
                          have hkl : e.k.length ≤ 8589934592 := HBK.out e (List.mem_of_getElem? he)
                          obtain ⟨g, hg1, hg2⟩ := HE6.out.z m e hlt he
                          rw [← HE8.out.fr 5 m (by omega) (by omega)] at hg2
                          have HG : Hid (r8 (5, m) = _) := hg2
                          obtain ⟨gg, cg', e1, hc1⟩ := own_read ((HE8.out.es.hp.here hb).get hg2) (by omega)
                          subst e1
                          have hls := (HE8.out.fr 6 0 (by omega) (by omega)).trans HE6.out.ls
                          obtain ⟨gq, cq, e2, q0⟩ := row1_at ((HE8.out.es.hp.here hb).get hls) hg1
                          cases e2
                          have HGS : Hid (gs[m]? = _) := hg1
                          clear hb he hc1 hg1 hg2 hls
                          go_wp2_with fail
                          clear q0
                          go_loopw [20] (fun s wy => ∃ j : Nat, j ≤ e.k.length + 20 ∧ s = .int .i64 j ∧ Below W8.heap.size W8 wy) (fun s _ => e.k.length + 20 - (intOf s).toNat)
                          case atStart => exact ⟨0, by omega, rfl, HBW.out⟩
                          case round =>
                            obtain ⟨j, hj, rfl, hb⟩ := hrel
                            have HBX : Hid (Below W8.heap.size W8 wr) := hb
                            have hp := HE8.out.es.hp.here hb
                            obtain ⟨gq', cq', e2, q0⟩ := row1_at (hp.get ((HE8.out.fr 6 0 (by omega) (by omega)).trans HE6.out.ls)) HGS.out
                            cases e2
                            by_cases hjl : j < e.k.length + 20
                            · have hjz : (j : Int) < ((e.k.length + 20 : Nat) : Int) := by omega
                              have hjz2 : (j : Int) < (e.k.length : Int) + 20 := by omega
                              have HF : Hid (e.k.length ≤ j ∨ j < e.k.length) := by rw [Hid]; omega
                              obtain ⟨_, _, e3, hc⟩ := own_read (hp.get HG.out) (by omega)
                              cases e3
                              have c0 := hc j _ (rep_at hjl)
                              rw [encB_mkB] at c0
                              obtain ⟨gk, ck', e4, k0⟩ := row1_at (hp.get ((HE8.out.fr 4 0 (by omega) (by omega)).trans HE6.out.ks)) (show ((keysAll its).map Kc.v)[m]? = some e.v by rw [List.getElem?_map, HI.out]; rfl)
                              have hkw := hp.get ((HE8.out.fr 3 m (by omega) (by omega)).trans (HE6.out.y m e HI.out))
                              rw [← HM.out] at e4
                              cases e4
                              obtain ⟨av, cv, hev⟩ := own_form hkw
                              rcases HF.out with hjk | hjk
                              · have hjk2 : ¬ ((j : Int) < (e.k.length : Int)) := by omega
                                have hjk3 : ¬ (j < e.k.length) := by omega
                                rw [hev] at k0
                                clear hb hp hc hkw hev
                                go_wp2
                                go_quiet (fail)
                                go_wp2
                                exact ⟨⟨j + 1, by omega, by go_num, below_draws HBX.out nq⟩, by simp [intOf]; omega⟩
                              · have hjk2 : (j : Int) < (e.k.length : Int) := by omega
                                obtain ⟨qv, cv', hev2, hc2⟩ := own_read hkw (by omega)
                                have c1 := hc2 j _ (rep_at hjk)
                                rw [encB_mkB] at c1
                                rw [hev2] at k0
                                clear hb hp hc hkw hev hev2 hc2
                                go_wp2
                                go_quiet (fail)
                                go_wp2
                                exact ⟨⟨j + 1, by omega, by go_num, below_draws HBX.out nq⟩, by simp [intOf]; omega⟩
                            · have hje : j = e.k.length + 20 := by omega
                              have hjz : ¬ (j : Int) < ((e.k.length + 20 : Nat) : Int) := by omega
                              have hjz2 : ¬ (j : Int) < (e.k.length : Int) + 20 := by omega
                              clear hb hp
                              go_wp2_with fail
                              exact ⟨⟨m + 1, by omega, by go_num, HBX.out⟩, by simp [intOf]; omega⟩
                        · obtain rfl : m = k := by omega
                          clear hb hlt hm HM hMb HBK
                          go_wp2_with fail
                          go_loopw [21] (fun s wx => ∃ n : Nat, n ≤ its.length ∧ s = .int .i64 n ∧ Below W8.heap.size W8 wx) (fun s _ => its.length - (intOf s).toNat)
                          case atStart => exact ⟨0, by omega, rfl, HBW.out⟩
                          case round =>
                            obtain ⟨n, hn, rfl, hb⟩ := hrel
                            have HBX : Hid (Below W8.heap.size W8 wr) := hb
                            by_cases hlt : n < its.length
                            · have hnz : (n : Int) < (its.length : Int) := by omega
                              obtain ⟨e, he⟩ : ∃ x, its[n]? = some x := ⟨_, List.getElem?_eq_getElem hlt⟩
                              have HI : Hid (its[n]? = some e) := he
                              have hpl : e.ps.length ≤ 8589934592 := HBP.out e (List.mem_of_getElem? he)
                              obtain ⟨g, hg1, hg2⟩ := HE8.out.p1 n e hlt he
                              have HG : Hid (ms[n]? = _) := hg1
                              have HG2 : Hid (r8 (1, n) = _) := hg2
                              have hp := HE8.out.es.hp.here hb
                              obtain ⟨ga, ca, e1, q0⟩ := row1_at (hp.get HE8.out.hm) hg1
                              cases e1
                              obtain ⟨gx, cx, e2, _⟩ := own_read (hp.get hg2) (by omega)
                              subst e2
                              have hwrap : IntKind.i64.wrap (-1 - (n : Int)) = -1 - (n : Int) := wrapk_of _ (by omega) (by omega)
                              clear hb he hg1 hg2 hp
                              go_wp2_with fail
                              clear q0
                              go_loopw [22] (fun s wy => ∃ j : Nat, j ≤ e.ps.length + 20 ∧ s = .int .i64 j ∧ Below W8.heap.size W8 wy) (fun s _ => e.ps.length + 20 - (intOf s).toNat)
                              case atStart => exact ⟨0, by omega, rfl, HBX.out⟩
                              case round =>
                                obtain ⟨j, hj, rfl, hb⟩ := hrel
                                have HBY : Hid (Below W8.heap.size W8 wr) := hb
                                have hp := HE8.out.es.hp.here hb
                                obtain ⟨ga', ca', e1, q0⟩ := row1_at (hp.get HE8.out.hm) HG.out
                                cases e1
                                by_cases hjl : j < e.ps.length + 20
                                · have hjz : (j : Int) < ((e.ps.length + 20 : Nat) : Int) := by omega
                                  have hjz2 : (j : Int) < (e.ps.length : Int) + 20 := by omega
                                  obtain ⟨_, _, e3, hc⟩ := own_read (hp.get HG2.out) (by omega)
                                  cases e3
                                  have c0 : wr.cell? ⟨gx, j, none⟩ = some (.int .i64 (-1 - (n : Int))) := hc j _ (rep_at hjl)
                                  clear hb hp hc
                                  go_wp2_with fail
                                  exact ⟨⟨j + 1, by omega, by go_num, HBY.out⟩, by simp [intOf]; omega⟩
                                · have hjz : ¬ (j : Int) < ((e.ps.length + 20 : Nat) : Int) := by omega
                                  have hjz2 : ¬ (j : Int) < (e.ps.length : Int) + 20 := by omega
                                  obtain ⟨gv, us, hv1, hv2, hul, hu1⟩ := HE8.out.k1 n e hlt HI.out
                                  have HV1 : Hid (qs[n]? = _) := hv1
                                  have HV2 : Hid (r8 (2, n) = _) := hv2
                                  have HU1 : Hid _ := hu1
                                  obtain ⟨gl, cl', e4, _, _, s0, s1⟩ := row2_at ((HE8.out.es.here hb).rowL) HI.out
                                  cases e4
                                  obtain ⟨p0, p1⟩ := (HE8.out.es.here hb).cells
                                  obtain ⟨ak2, ck2, hvk⟩ := own_form (HE6.out.es.hp.get (HE6.out.k n e HI.out))
                                  have hfl : e.F.length ≤ 34359738368 := by
                                    have := key_bound HI.out
                                    exact Nat.le_trans (by omega) HBF.out
                                  rw [hvk] at s1
                                  obtain ⟨gi, ci', e5, t0⟩ := row1_at (hp.get HE8.out.hl) hv1
                                  cases e5
                                  obtain ⟨gw, cw2, e6, _⟩ := own_read (hp.get hv2) (by omega)
                                  subst e6
                                  clear hb hp hvk hv1 hv2 hu1
                                  go_wp2_with fail
                                  clear s0 s1 p0 p1 t0 q0
                                  go_loopw [23] (fun s wz => ∃ t : Nat, t ≤ 20 ∧ s = .int .i64 ((e.F.length + t : Nat) : Int) ∧ Below W8.heap.size W8 wz) (fun s _ => e.F.length + 20 - (intOf s).toNat)
                                  case atStart => exact ⟨0, by omega, by simp, HBY.out⟩
                                  case round =>
                                    obtain ⟨t, ht, rfl, hb⟩ := hrel
                                    have HBZ : Hid (Below W8.heap.size W8 wr) := hb
                                    have hp := HE8.out.es.hp.here hb
                                    obtain ⟨gi', ci', e5, t0⟩ := row1_at (hp.get HE8.out.hl) HV1.out
                                    cases e5
                                    obtain ⟨T, hT⟩ : ∃ T, T = e.F.length + t := ⟨_, rfl⟩
                                    have HT : Hid (T = e.F.length + t) := hT
                                    rw [← hT]
                                    have hTb : T ≤ e.F.length + 20 := by omega
                                    by_cases htl : t < 20
                                    · have hTl : T < e.F.length + 20 := by omega
                                      have hTz : (T : Int) < (e.F.length : Int) + 20 := by omega
                                      obtain ⟨u, hu⟩ : ∃ u, us[t]? = some u := ⟨_, List.getElem?_eq_getElem (by rw [hul]; exact htl)⟩
                                      obtain ⟨gu, cu, e7, hcu⟩ := own_read (hp.get (HU1.out t u hu)) (by omega)
                                      have u0 := hcu 0 _ rfl
                                      obtain ⟨_, _, e8, hcw⟩ := own_read (hp.get HV2.out) (by omega)
                                      cases e8
                                      have w0 := hcw T u (by rw [hT, List.getElem?_append_right (by simp), List.length_map, Nat.add_sub_cancel_left]; exact hu)
                                      subst e7
                                      clear hb hp hcu hcw hu hT
                                      go_wp2
                                      have hT2 := HT.out
                                      exact ⟨⟨t + 1, by omega, by rw [show e.F.length + (t + 1) = T + 1 by omega]; rfl, HBZ.out⟩, by simp [intOf]; omega⟩
                                    · have hTl : ¬ (T < e.F.length + 20) := by omega
                                      have hTz : ¬ (T : Int) < (e.F.length : Int) + 20 := by omega
                                      clear hb hp hT
                                      go_wp2_with fail
                                      exact ⟨⟨n + 1, by omega, by go_num, HBZ.out⟩, by simp [intOf]; omega⟩
                            · clear hb
                              go_wp2
                              go_ret
                              exact ⟨rfl, HE8.out.es.low.trans (HBX.out.mono HE8.out.es.hB)⟩
end Go.Proofs.Ytaehchijeinloaa
