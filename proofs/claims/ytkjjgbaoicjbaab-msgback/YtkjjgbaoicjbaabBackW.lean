/- MsgBack's walk. -/
import Derived.Test.YtkjjgbaoicjbaabAwake
import Derived.Test.YtkjjgbaoicjbaabWeights
import Derived.Test.YtkjjgbaoicjbaabSameB
import Derived.Test.YtkjjgbaoicjbaabWithinW
import Derived.Test.YtkjjgbaoicjbaabEncL
import Derived.Test.YtkjjgbaoicjbaabDecode
namespace Go.Proofs.Ytkjjgbaoicjbaab
open Go.RowKit

theorem dec_zero {z : Int} {b : Key} (h : (decR z b).2 = 0) : checkM z (decR z b).1 = 0 ∧ layM (decR z b).1 = b ∧ (decR z b).1.length < 4294967296 := by
  unfold decR at h ⊢
  split at h
  · cases h
  · rename_i hs
    rw [if_neg hs]
    cases hd : decB z b with
    | none => rw [hd] at h; cases h
    | some l => simp only; exact lay_dec hd
theorem lay_size {z : Int} {l : List Ms} (h : checkM z l = 0) : (layM l).length = 4 + sizesM l := by
  have h' := checkM_zero.1 h
  unfold layM
  rw [List.length_append, layL_length (z := z.toNat) (fun m hm => (h'.2.1 m hm).1)]
  rfl
theorem sizes_len (M : List Ms) : 13 * M.length ≤ sizesM M := by
  induction M with
  | nil => simp [sizesM]
  | cons m r ih => rw [sizesM_cons, List.length_cons]; unfold sizeM; omega
theorem sizes_mem {M : List Ms} {m : Ms} (h : m ∈ M) : sizeM m ≤ sizesM M := by
  induction M with
  | nil => simp at h
  | cons x r ih =>
    rw [sizesM_cons]
    rcases List.mem_cons.1 h with rfl | h
    · omega
    · have := ih h; omega
theorem dec_of {z : Int} {l : List Ms} (h : checkM z l = 0) (hl : l.length < 4294967296) : decR z (layM l) = (l, 0) := by
  unfold decR
  rw [if_neg (by simpa using (checkM_zero.1 h).1), dec_lay h hl]
theorem strB_self (a : List UInt8) : ((strB a).toList != (strB a).toList) = false := by simp

set_option maxHeartbeats 12800000 in
set_option maxRecDepth 100000 in
theorem back_walk {w : World} {z bits : Int} {v u vb : Value} {L : List Mt} {r : Rg} {b : Key} (_ : (Lit.int .i64 z).wf = true) (hL : MsgsAt w.heap.size w v L) (_ : (Lit.int .i64 bits).wf = true) (hr : RangeAt w u r) (hk : KeyAt w vb b) :
    Calls Try.prog 3 #[.int .i64 z, v, .int .i64 bits, u, vb] w fun e w' => e = .returned (.bool true) ∧ Below w.heap.size w w' := by
  have hsh := hL.short
  obtain ⟨a, c, rfl⟩ := hL.form
  obtain ⟨u1, u2, rfl, hr1, hr2⟩ := hr.is
  obtain ⟨b1, d1, f1⟩ := hr1.in.form
  obtain ⟨b2, d2, f2⟩ := hr2.in.form
  subst f1 f2
  obtain ⟨ab, cb, f3⟩ := hk.in.form
  subst f3
  have hsb := hk.in.short
  obtain ⟨W, hW⟩ : ∃ W, W = w.alloc (.cells #[.slice b1 r.lo.length d1, .slice b2 r.hi.length d2, .bool r.all] 25) := ⟨_, rfl⟩
  have HBW : Hid (Below w.heap.size w W) := by rw [hW]; exact below_new _ _
  have HX : Hid (Box W w.heap.size (.slice b1 r.lo.length d1) (.slice b2 r.hi.length d2) (.bool r.all)) := by rw [hW]; exact Box.new _ _ _ _
  have HL : Hid (∀ W', Below W.heap.size W W' → MsgsAt W'.heap.size W' (.slice a L.length c) L) := fun W' hb => (hL.here HBW.out).here hb
  have HR : Hid (∀ W', Below W.heap.size W W' → RangeAt W' (.agg #[.slice b1 r.lo.length d1, .slice b2 r.hi.length d2, .bool r.all]) r) := fun W' hb => (hr.here HBW.out).here hb
  have HK : Hid (∀ W', Below W.heap.size W W' → KeyAt W' (.slice ab b.length cb) b) := fun W' hb => (hk.here HBW.out).here hb
  have HLE : Hid (∀ W', Below W.heap.size W W' → Below w.heap.size w W') := fun W' hb => HBW.out.trans (hb.mono HBW.out.size)
  clear hL hr hr1 hr2 hk
  go_enter Try.func3, Try.ntmps3
  go_wp2_with fail
  rw [← hW]
  clear hW
  refine (awake_any W).mono ?_
  rintro e w1 ⟨rfl, hb1⟩
  have HB1 : Hid (Below W.heap.size W w1) := hb1
  clear hb1
  go_wp2_with fail
  refine (weights_any (HL.out w1 HB1.out)).mono ?_
  rintro e w2 ⟨s, rfl, hs1, hs2, hb2⟩
  have HB2 : Hid (Below W.heap.size W w2) := HB1.out.trans (hb2.mono HB1.out.size)
  have HEND2 : Hid (Below w.heap.size w w2) := HLE.out w2 HB2.out
  clear hb2
  by_cases hbd : s ≤ 2147483647
  · have hzb : ¬ (2147483647 : Int) < (s : Int) := by omega
    have HS : Hid (sizesM (msOf L) ≤ 2147483647) := by rw [Hid, hs1 hbd]; exact hbd
    have HCK := check_any (z := z) (HL.out w2 HB2.out)
    obtain ⟨C, hC⟩ : ∃ C, C = checkM z (msOf L) := ⟨_, rfl⟩
    have HC : Hid (C = checkM z (msOf L)) := hC
    rw [← hC] at HCK
    have hcc : ((C : Int) != (C : Int)) = false := by simp
    clear hs1 hbd hC
    go_wp2_with fail
    refine HCK.mono ?_
    rintro e w3 ⟨rfl, hb3⟩
    have HB3 : Hid (Below W.heap.size W w3) := HB2.out.trans (hb3.mono HB2.out.size)
    have HEN := encode_any (z := z) (HL.out w3 HB3.out) (by have := HS.out; omega)
    rw [← HC.out] at HEN
    obtain ⟨T, hT⟩ : ∃ T, T = (if C = 0 then by4 L.length ++ layL (msOf L) else []) := ⟨_, rfl⟩
    have HT : Hid (T = (if C = 0 then by4 L.length ++ layL (msOf L) else [])) := hT
    rw [← hT] at HEN
    clear hb3 HCK hT
    go_wp2_with fail
    refine HEN.mono ?_
    rintro e w4 ⟨v4, rfl, hk4, hb4⟩
    obtain ⟨a4, c4, f4⟩ := hk4.at.in.form
    subst f4
    have HB4 : Hid (Below W.heap.size W w4) := HB3.out.trans (hb4.mono HB3.out.size)
    have HK4 : Hid (KeyAt w4 (.slice a4 T.length c4) T) := hk4.at
    have HDE := decode_any (z := z) (HK.out w4 HB4.out).in
    clear hk4 hb4 HEN
    go_wp2_with fail
    refine HDE.mono ?_
    rintro e w5 ⟨v5, F5, rfl, hms5, hnm5, hfl5, hb5⟩
    obtain ⟨a5, c5, f5⟩ := own_form' hnm5.own
    subst f5
    have HB5 : Hid (Below W.heap.size W w5) := HB4.out.trans (hb5.mono HB4.out.size)
    have HK5 : Hid (KeyAt w5 (.slice a4 T.length c4) T) := HK4.out.here hb5
    clear hb5 HDE
    by_cases hd : (decR z b).2 = 0
    · obtain ⟨g1, g2, g3⟩ := dec_zero hd
      rw [← hms5] at g1 g2 g3
      have hbl := lay_size g1
      rw [g2] at hbl
      have HMF : Hid (∀ W', Below w5.heap.size w5 W' → MsgsAt W'.heap.size W' (.slice a5 F5.length c5) F5) := fun W' hb => (hnm5.at (by omega)).here hb
      have HEL := encodeL_any (z := z) (HMF.out w5 (Below.refl _ _)) (by omega)
      rw [g1] at HEL
      simp only [if_true] at HEL
      rw [by4_four _ hfl5, show four F5.length ++ layL (msOf F5) = b by rw [← g2, layM, msOf_length]] at HEL
      rw [hd]
      have HBL : Hid (4 + sizesM (msOf F5) = b.length) := hbl.symm
      clear hd g1 g2 g3 hbl hms5 hnm5
      go_wp2_with fail
      refine HEL.mono ?_
      rintro e w6 ⟨v6, rfl, hk6, hb6⟩
      obtain ⟨a6, c6, f6⟩ := hk6.at.in.form
      subst f6
      have HB6 : Hid (Below W.heap.size W w6) := HB5.out.trans (hb6.mono HB5.out.size)
      have HK6 : Hid (KeyAt w6 (.slice a4 T.length c4) T) := HK5.out.here hb6
      have HBY := bytesG_any (HMF.out w6 hb6) (by have := HBL.out; omega)
      rw [HBL.out] at HBY
      have e6 := conv_key hk6.at
      have e7 := conv_key (HK.out w6 HB6.out)
      have s1 := strB_self b
      have hbb : ((b.length : Int) != (b.length : Int)) = false := by simp
      generalize strB b = S at *
      clear HEL hk6 hb6
      go_wp2_with fail
      refine HBY.mono ?_
      rintro e w7 ⟨rfl, hb7⟩
      have HB7 : Hid (Below W.heap.size W w7) := HB6.out.trans (hb7.mono HB6.out.size)
      have HK7 : Hid (KeyAt w7 (.slice a4 T.length c4) T) := HK6.out.here hb7
      clear hb7 HBY e6 e7
      go_upto_region 13 with fail
      obtain ⟨wT, hwT⟩ : ∃ wT, wT = w7 := ⟨_, rfl⟩
      have HBT : Hid (Below W.heap.size W wT) := by rw [hwT]; exact HB7.out
      have HKT : Hid (KeyAt wT (.slice a4 T.length c4) T) := by rw [hwT]; exact HK7.out
      rw [← hwT]
      clear hwT
      by_cases hC0 : C = 0
      · subst hC0
        have HCZ : Hid (checkM z (msOf L) = 0) := HC.out.symm
        have hl32 : (msOf L).length < 4294967296 := by have := sizes_len (msOf L); have := HS.out; omega
        have HTL : Hid (T = layM (msOf L)) := by rw [Hid, HT.out, if_pos rfl, by4_four _ (by rw [← msOf_length]; exact hl32), layM, msOf_length]
        have HDR : Hid (decR z T = (msOf L, 0)) := by rw [Hid, HTL.out]; exact dec_of HCZ.out hl32
        have HTN : Hid (T.length = 4 + sizesM (msOf L)) := by rw [Hid, HTL.out]; exact lay_size HCZ.out
        have HD2 := decode_any (z := z) HKT.out.in
        go_wp2_with fail
        refine HD2.mono ?_
        rintro e w8 ⟨v8, F8, rfl, hms8, hnm8, hfl8, hb8⟩
        rw [HDR.out] at hms8 ⊢
        simp only at hms8 ⊢
        obtain ⟨a8, c8, f8⟩ := own_form' hnm8.own
        subst f8
        have HB8 : Hid (Below W.heap.size W w8) := HBT.out.trans (hb8.mono HBT.out.size)
        have HMF8 : Hid (∀ W', Below w8.heap.size w8 W' → MsgsAt W'.heap.size W' (.slice a8 F8.length c8) F8) := fun W' hb => (hnm8.at (by omega)).here hb
        have HMS8 : Hid (msOf F8 = msOf L) := hms8
        have HBY := bytesG_any (HL.out w8 HB8.out) (by have := HS.out; omega)
        rw [← HTN.out] at HBY
        have htt : ((T.length : Int) != (T.length : Int)) = false := by simp
        clear hms8 hnm8 hb8 HD2
        go_wp2_with fail
        refine HBY.mono ?_
        rintro e w9 ⟨rfl, hb9⟩
        have HB9 : Hid (Below W.heap.size W w9) := HB8.out.trans (hb9.mono HB8.out.size)
        have HSM := sameMsgs_any (HMF8.out w9 hb9) (HL.out w9 HB9.out)
        rw [HMS8.out, decide_eq_true rfl] at HSM
        clear hb9 HBY
        go_wp2_with fail
        refine HSM.mono ?_
        rintro e w10 ⟨rfl, hb10⟩
        have HB10 : Hid (Below W.heap.size W w10) := HB9.out.trans (hb10.mono HB9.out.size)
        clear hb10 HSM
        go_wp2_with fail
        go_loopw [21, 22] (fun l i wx => ∃ (n : Nat) (F : List Mt), n ≤ L.length ∧ i = .int .i64 n ∧ (msOf F).Sublist ((msOf L).take n) ∧ F.length ≤ n ∧ wx.ownsRow w10.heap.size 38 5 l F.length (flatM F) ∧ (∀ e ∈ F, e ∈ L) ∧ Below w10.heap.size w10 wx) (fun _ i _ => L.length - (intOf i).toNat)
        case atStart => exact ⟨0, [], by omega, rfl, by simp [msOf], Nat.le_refl _, World.ownsRow_nil _ _ _ _, fun e he => by simp at he, Below.refl _ _⟩
        case round =>
          obtain ⟨n, F, hn, rfl, hsub, hfn, hown, hmem, hlow⟩ := hrel
          have HBR : Hid (Below w10.heap.size w10 wr) := hlow
          have HBRW : Hid (Below W.heap.size W wr) := HB10.out.trans (hlow.mono HB10.out.size)
          have HOWN : Hid (wr.ownsRow w10.heap.size 38 5 u21 F.length (flatM F)) := hown
          have HSUB : Hid ((msOf F).Sublist ((msOf L).take n)) := hsub
          have HMEM : Hid (∀ e ∈ F, e ∈ L) := hmem
          obtain ⟨ua, uc, hu⟩ := own_form' hown
          clear hsub hown hmem hlow
          subst hu
          by_cases hlt : n < L.length
          · have hzl : (n : Int) < (L.length : Int) := by omega
            obtain ⟨e, he⟩ : ∃ e, L[n]? = some e := ⟨_, List.getElem?_eq_getElem hlt⟩
            have hme := List.mem_of_getElem? he
            have HTK : Hid ((msOf L).take (n + 1) = (msOf L).take n ++ [e.m]) := by rw [Hid, List.take_add_one, msOf_get he]; rfl
            by_cases hbit : (Go.bits BinOp.and IntKind.i64 bits (wrap64 (2 ^ (n % 60))) == 0) = true
            · have hL := HL.out wr HBRW.out
              obtain ⟨g, off, c', e1, k0, k1, k2, k3, k4⟩ := hL.cells n e he
              cases e1
              have HOK : Hid (e.Ok wr.heap.size wr) := hL.ok e hme
              obtain ⟨a1, c1', f1⟩ := HOK.out.lo.form
              obtain ⟨a2, c2', f2⟩ := HOK.out.hi.form
              obtain ⟨a3, c3', f3⟩ := HOK.out.va.form
              have HME : Hid (e ∈ L) := hme
              clear he hL hme
              obtain ⟨v1, v2, v3, m⟩ := e
              simp only at f1 f2 f3 k0 k1 k2 k3 k4 HTK
              subst f1 f2 f3
              have HL1 := msg_one wr _ HOK.out
              have HBN : Hid (Below wr.heap.size wr (wr.alloc (.cells #[.int .u64 (m.st : Int), .int .i64 m.kd, .slice a1 m.lo.length c1', .slice a2 m.hi.length c2', .slice a3 m.va.length c3'] 38))) := below_new _ _
              have HOWN' : Hid ((wr.alloc (.cells #[.int .u64 (m.st : Int), .int .i64 m.kd, .slice a1 m.lo.length c1', .slice a2 m.hi.length c2', .slice a3 m.va.length c3'] 38)).ownsRow w10.heap.size 38 5 (.slice ua F.length uc) F.length (flatM F)) := own_same HOWN.out fun b _ hl => HBN.out.block b hl
              have hsz3 := HBR.out.size
              go_wp2_with (at_builtin
                           refine wpList_append_msgs rfl _ _ rfl w10.heap.size (.slice ua F.length uc) _ F [⟨.slice a1 m.lo.length c1', .slice a2 m.hi.length c2', .slice a3 m.va.length c3', m⟩] rfl HOWN'.out rfl HL1 (by simp; omega) (by simp; omega) ?_
                           intro v12 w12 ho12 hk12
                           have HO12 : Hid _ := ho12
                           have HB12 : Hid (Below w10.heap.size w10 w12) := (HBR.out.trans (HBN.out.mono HBR.out.size)).trans hk12.low
                           clear ho12 hk12)
              exact ⟨⟨n + 1, _, by omega, by go_num, by rw [HTK.out]; simp only [msOf, List.map_append]; exact List.Sublist.append HSUB.out (List.Sublist.refl _), by simp; omega, HO12.out, fun x hx => (List.mem_append.1 hx).elim (HMEM.out x) (fun h => by simp only [List.mem_cons, List.not_mem_nil, or_false] at h; rw [h]; exact HME.out), HB12.out⟩, by simp [intOf]; omega⟩
            · have hbit' : (Go.bits BinOp.and IntKind.i64 bits (wrap64 (2 ^ (n % 60))) == 0) = false := by simpa using hbit
              clear hbit he hme
              go_wp2
              exact ⟨⟨n + 1, F, by omega, by go_num, by rw [HTK.out]; exact HSUB.out.trans (List.sublist_append_left _ _), by omega, HOWN.out, HMEM.out, HBR.out⟩, by simp [intOf]; omega⟩
          · have hzl : ¬ (n : Int) < (L.length : Int) := by omega
            have HKC : Hid (checkM z (msOf F) = 0) := checkM_sub HCZ.out (HSUB.out.trans (List.take_sublist _ _))
            have HLO : Hid (∀ e ∈ L, e.m.lo.length ≤ 4294967296) := fun e he => by
              have h1 := sizes_mem (M := msOf L) (m := e.m) (List.mem_map.2 ⟨e, he, rfl⟩)
              have h2 := HS.out
              unfold sizeM at h1
              omega
            have hlL : L.length ≤ 200000000 := by have := sizes_len (msOf L); rw [msOf_length] at this; have := HS.out; omega
            have HSE := settle_any (HL.out wr HBRW.out) HLO.out
            go_wp2_with fail
            refine HSE.mono ?_
            rintro e w13 ⟨v13, F13, C13, rfl, hcu, hms13, hnm13, hfl13, hb13⟩
            have HB13 : Hid (Below wr.heap.size wr w13) := hb13
            have HB13W : Hid (Below W.heap.size W w13) := HBRW.out.trans (hb13.mono HBRW.out.size)
            rw [msOf_length] at hfl13
            have HC13 := check_any (z := z) (hnm13.at (by omega))
            rw [hms13, checkM_sub HCZ.out (settleM_sub _ _)] at HC13
            obtain ⟨a13, c13, f13⟩ := own_form' hnm13.own
            subst f13
            clear hcu hms13 hnm13 hb13 HSE
            go_wp2_with fail
            refine HC13.mono ?_
            rintro e w14 ⟨rfl, hb14⟩
            have HB14 : Hid (Below wr.heap.size wr w14) := HB13.out.trans (hb14.mono HB13.out.size)
            have HB14W : Hid (Below W.heap.size W w14) := HB13W.out.trans (hb14.mono HB13W.out.size)
            clear hb14 HC13
            obtain ⟨x0, x1, x2⟩ := (HX.out.here HB14W.out).cells
            have HWI := within_any (HL.out w14 HB14W.out) (HR.out w14 HB14W.out)
            go_wp2_with fail
            refine HWI.mono ?_
            rintro e w15 ⟨v15, F15, rfl, hms15, hnm15, hfl15, hb15⟩
            have HB15 : Hid (Below wr.heap.size wr w15) := HB14.out.trans (hb15.mono HB14.out.size)
            have HB15W : Hid (Below W.heap.size W w15) := HB14W.out.trans (hb15.mono HB14W.out.size)
            rw [msOf_length] at hfl15
            have HC15 := check_any (z := z) (hnm15.at (by omega))
            rw [hms15] at HC15
            obtain ⟨a15, c15, f15⟩ := own_form' hnm15.own
            subst f15
            obtain ⟨X, hX⟩ : ∃ X, X = checkM z (withinM (msOf L) r) := ⟨_, rfl⟩
            have HWC : Hid (r.lo.length ≤ z.toNat / 16 → r.hi.length ≤ z.toNat / 16 → X = 0) := fun h1 h2 => by rw [hX]; exact within_check HCZ.out h1 h2
            rw [← hX] at HC15
            clear hms15 hnm15 hb15 HWI x0 x1 x2 hX
            go_wp2_with fail
            refine HC15.mono ?_
            rintro e w16 ⟨rfl, hb16⟩
            have HB16 : Hid (Below wr.heap.size wr w16) := HB15.out.trans (hb16.mono HB15.out.size)
            have HB16W : Hid (Below W.heap.size W w16) := HB15W.out.trans (hb16.mono HB15W.out.size)
            obtain ⟨x0, x1, x2⟩ := (HX.out.here HB16W.out).cells
            have HCF := check_any (z := z) (msgs_own (own_same HOWN.out fun b _ hl => HB16.out.block b hl) (fun e he => (HL.out w16 HB16W.out).ok e (HMEM.out e he)) (by omega))
            rw [HKC.out] at HCF
            have HSD : Hid (Sized z) := (checkM_zero.1 HCZ.out).1
            clear hb16 HC15
            rcases HSD.out with hz | hz | hz | hz
            · subst hz
              by_cases h1 : r.lo.length ≤ 32
              · have q1 : (r.lo.length : Int) ≤ 32 := by omega
                by_cases h2 : r.hi.length ≤ 32
                · have q2 : (r.hi.length : Int) ≤ 32 := by omega
                  have hX0 : X = 0 := HWC.out h1 h2
                  subst hX0
                  clear h1 h2
                  go_wp2_with fail
                  refine HCF.mono ?_
                  rintro e w17 ⟨rfl, hb17⟩
                  have HB17 : Hid (Below w.heap.size w w17) := HLE.out w17 (HB16W.out.trans (hb17.mono HB16W.out.size))
                  clear hb17 HCF
                  go_wp2
                  go_ret
                  exact ⟨by first | rfl | simp, HB17.out⟩
                · have q2 : ¬ (r.hi.length : Int) ≤ 32 := by omega
                  clear h1 h2
                  go_wp2_with fail
                  refine HCF.mono ?_
                  rintro e w17 ⟨rfl, hb17⟩
                  have HB17 : Hid (Below w.heap.size w w17) := HLE.out w17 (HB16W.out.trans (hb17.mono HB16W.out.size))
                  clear hb17 HCF
                  go_wp2
                  go_ret
                  exact ⟨by first | rfl | simp, HB17.out⟩
              · have q1 : ¬ (r.lo.length : Int) ≤ 32 := by omega
                clear h1
                go_wp2_with fail
                refine HCF.mono ?_
                rintro e w17 ⟨rfl, hb17⟩
                have HB17 : Hid (Below w.heap.size w w17) := HLE.out w17 (HB16W.out.trans (hb17.mono HB16W.out.size))
                clear hb17 HCF
                go_wp2
                go_ret
                exact ⟨by first | rfl | simp, HB17.out⟩
            · subst hz
              by_cases h1 : r.lo.length ≤ 64
              · have q1 : (r.lo.length : Int) ≤ 64 := by omega
                by_cases h2 : r.hi.length ≤ 64
                · have q2 : (r.hi.length : Int) ≤ 64 := by omega
                  have hX0 : X = 0 := HWC.out h1 h2
                  subst hX0
                  clear h1 h2
                  go_wp2_with fail
                  refine HCF.mono ?_
                  rintro e w17 ⟨rfl, hb17⟩
                  have HB17 : Hid (Below w.heap.size w w17) := HLE.out w17 (HB16W.out.trans (hb17.mono HB16W.out.size))
                  clear hb17 HCF
                  go_wp2
                  go_ret
                  exact ⟨by first | rfl | simp, HB17.out⟩
                · have q2 : ¬ (r.hi.length : Int) ≤ 64 := by omega
                  clear h1 h2
                  go_wp2_with fail
                  refine HCF.mono ?_
                  rintro e w17 ⟨rfl, hb17⟩
                  have HB17 : Hid (Below w.heap.size w w17) := HLE.out w17 (HB16W.out.trans (hb17.mono HB16W.out.size))
                  clear hb17 HCF
                  go_wp2
                  go_ret
                  exact ⟨by first | rfl | simp, HB17.out⟩
              · have q1 : ¬ (r.lo.length : Int) ≤ 64 := by omega
                clear h1
                go_wp2_with fail
                refine HCF.mono ?_
                rintro e w17 ⟨rfl, hb17⟩
                have HB17 : Hid (Below w.heap.size w w17) := HLE.out w17 (HB16W.out.trans (hb17.mono HB16W.out.size))
                clear hb17 HCF
                go_wp2
                go_ret
                exact ⟨by first | rfl | simp, HB17.out⟩
            · subst hz
              by_cases h1 : r.lo.length ≤ 128
              · have q1 : (r.lo.length : Int) ≤ 128 := by omega
                by_cases h2 : r.hi.length ≤ 128
                · have q2 : (r.hi.length : Int) ≤ 128 := by omega
                  have hX0 : X = 0 := HWC.out h1 h2
                  subst hX0
                  clear h1 h2
                  go_wp2_with fail
                  refine HCF.mono ?_
                  rintro e w17 ⟨rfl, hb17⟩
                  have HB17 : Hid (Below w.heap.size w w17) := HLE.out w17 (HB16W.out.trans (hb17.mono HB16W.out.size))
                  clear hb17 HCF
                  go_wp2
                  go_ret
                  exact ⟨by first | rfl | simp, HB17.out⟩
                · have q2 : ¬ (r.hi.length : Int) ≤ 128 := by omega
                  clear h1 h2
                  go_wp2_with fail
                  refine HCF.mono ?_
                  rintro e w17 ⟨rfl, hb17⟩
                  have HB17 : Hid (Below w.heap.size w w17) := HLE.out w17 (HB16W.out.trans (hb17.mono HB16W.out.size))
                  clear hb17 HCF
                  go_wp2
                  go_ret
                  exact ⟨by first | rfl | simp, HB17.out⟩
              · have q1 : ¬ (r.lo.length : Int) ≤ 128 := by omega
                clear h1
                go_wp2_with fail
                refine HCF.mono ?_
                rintro e w17 ⟨rfl, hb17⟩
                have HB17 : Hid (Below w.heap.size w w17) := HLE.out w17 (HB16W.out.trans (hb17.mono HB16W.out.size))
                clear hb17 HCF
                go_wp2
                go_ret
                exact ⟨by first | rfl | simp, HB17.out⟩
            · subst hz
              by_cases h1 : r.lo.length ≤ 256
              · have q1 : (r.lo.length : Int) ≤ 256 := by omega
                by_cases h2 : r.hi.length ≤ 256
                · have q2 : (r.hi.length : Int) ≤ 256 := by omega
                  have hX0 : X = 0 := HWC.out h1 h2
                  subst hX0
                  clear h1 h2
                  go_wp2_with fail
                  refine HCF.mono ?_
                  rintro e w17 ⟨rfl, hb17⟩
                  have HB17 : Hid (Below w.heap.size w w17) := HLE.out w17 (HB16W.out.trans (hb17.mono HB16W.out.size))
                  clear hb17 HCF
                  go_wp2
                  go_ret
                  exact ⟨by first | rfl | simp, HB17.out⟩
                · have q2 : ¬ (r.hi.length : Int) ≤ 256 := by omega
                  clear h1 h2
                  go_wp2_with fail
                  refine HCF.mono ?_
                  rintro e w17 ⟨rfl, hb17⟩
                  have HB17 : Hid (Below w.heap.size w w17) := HLE.out w17 (HB16W.out.trans (hb17.mono HB16W.out.size))
                  clear hb17 HCF
                  go_wp2
                  go_ret
                  exact ⟨by first | rfl | simp, HB17.out⟩
              · have q1 : ¬ (r.lo.length : Int) ≤ 256 := by omega
                clear h1
                go_wp2_with fail
                refine HCF.mono ?_
                rintro e w17 ⟨rfl, hb17⟩
                have HB17 : Hid (Below w.heap.size w w17) := HLE.out w17 (HB16W.out.trans (hb17.mono HB16W.out.size))
                clear hb17 HCF
                go_wp2
                go_ret
                exact ⟨by first | rfl | simp, HB17.out⟩
      · have hcz : ((C : Int) != 0) = true := by simp; omega
        have HTE : Hid (T = []) := by rw [Hid, HT.out, if_neg hC0]
        have hT0 : T.length = 0 := by rw [HTE.out]; rfl
        rw [hT0]
        have HEND : Hid (Below w.heap.size w wT) := HLE.out wT HBT.out
        clear hC0 hT0
        go_wp2
        go_ret
        exact ⟨by first | rfl | simp, HEND.out⟩
    · have hdz : (((decR z b).2 : Int) == 0) = false := by rw [beq_eq_false_iff_ne]; omega
      generalize (decR z b).2 = D at *
      clear hd
      go_upto_region 13 with fail
      obtain ⟨wT, hwT⟩ : ∃ wT, wT = w5 := ⟨_, rfl⟩
      have HBT : Hid (Below W.heap.size W wT) := by rw [hwT]; exact HB5.out
      have HKT : Hid (KeyAt wT (.slice a4 T.length c4) T) := by rw [hwT]; exact HK5.out
      rw [← hwT]
      clear hwT
      by_cases hC0 : C = 0
      · subst hC0
        have HCZ : Hid (checkM z (msOf L) = 0) := HC.out.symm
        have hl32 : (msOf L).length < 4294967296 := by have := sizes_len (msOf L); have := HS.out; omega
        have HTL : Hid (T = layM (msOf L)) := by rw [Hid, HT.out, if_pos rfl, by4_four _ (by rw [← msOf_length]; exact hl32), layM, msOf_length]
        have HDR : Hid (decR z T = (msOf L, 0)) := by rw [Hid, HTL.out]; exact dec_of HCZ.out hl32
        have HTN : Hid (T.length = 4 + sizesM (msOf L)) := by rw [Hid, HTL.out]; exact lay_size HCZ.out
        have HD2 := decode_any (z := z) HKT.out.in
        go_wp2_with fail
        refine HD2.mono ?_
        rintro e w8 ⟨v8, F8, rfl, hms8, hnm8, hfl8, hb8⟩
        rw [HDR.out] at hms8 ⊢
        simp only at hms8 ⊢
        obtain ⟨a8, c8, f8⟩ := own_form' hnm8.own
        subst f8
        have HB8 : Hid (Below W.heap.size W w8) := HBT.out.trans (hb8.mono HBT.out.size)
        have HMF8 : Hid (∀ W', Below w8.heap.size w8 W' → MsgsAt W'.heap.size W' (.slice a8 F8.length c8) F8) := fun W' hb => (hnm8.at (by omega)).here hb
        have HMS8 : Hid (msOf F8 = msOf L) := hms8
        have HBY := bytesG_any (HL.out w8 HB8.out) (by have := HS.out; omega)
        rw [← HTN.out] at HBY
        have htt : ((T.length : Int) != (T.length : Int)) = false := by simp
        clear hms8 hnm8 hb8 HD2
        go_wp2_with fail
        refine HBY.mono ?_
        rintro e w9 ⟨rfl, hb9⟩
        have HB9 : Hid (Below W.heap.size W w9) := HB8.out.trans (hb9.mono HB8.out.size)
        have HSM := sameMsgs_any (HMF8.out w9 hb9) (HL.out w9 HB9.out)
        rw [HMS8.out, decide_eq_true rfl] at HSM
        clear hb9 HBY
        go_wp2_with fail
        refine HSM.mono ?_
        rintro e w10 ⟨rfl, hb10⟩
        have HB10 : Hid (Below W.heap.size W w10) := HB9.out.trans (hb10.mono HB9.out.size)
        clear hb10 HSM
        go_wp2_with fail
        go_loopw [21, 22] (fun l i wx => ∃ (n : Nat) (F : List Mt), n ≤ L.length ∧ i = .int .i64 n ∧ (msOf F).Sublist ((msOf L).take n) ∧ F.length ≤ n ∧ wx.ownsRow w10.heap.size 38 5 l F.length (flatM F) ∧ (∀ e ∈ F, e ∈ L) ∧ Below w10.heap.size w10 wx) (fun _ i _ => L.length - (intOf i).toNat)
        case atStart => exact ⟨0, [], by omega, rfl, by simp [msOf], Nat.le_refl _, World.ownsRow_nil _ _ _ _, fun e he => by simp at he, Below.refl _ _⟩
        case round =>
          obtain ⟨n, F, hn, rfl, hsub, hfn, hown, hmem, hlow⟩ := hrel
          have HBR : Hid (Below w10.heap.size w10 wr) := hlow
          have HBRW : Hid (Below W.heap.size W wr) := HB10.out.trans (hlow.mono HB10.out.size)
          have HOWN : Hid (wr.ownsRow w10.heap.size 38 5 u21 F.length (flatM F)) := hown
          have HSUB : Hid ((msOf F).Sublist ((msOf L).take n)) := hsub
          have HMEM : Hid (∀ e ∈ F, e ∈ L) := hmem
          obtain ⟨ua, uc, hu⟩ := own_form' hown
          clear hsub hown hmem hlow
          subst hu
          by_cases hlt : n < L.length
          · have hzl : (n : Int) < (L.length : Int) := by omega
            obtain ⟨e, he⟩ : ∃ e, L[n]? = some e := ⟨_, List.getElem?_eq_getElem hlt⟩
            have hme := List.mem_of_getElem? he
            have HTK : Hid ((msOf L).take (n + 1) = (msOf L).take n ++ [e.m]) := by rw [Hid, List.take_add_one, msOf_get he]; rfl
            by_cases hbit : (Go.bits BinOp.and IntKind.i64 bits (wrap64 (2 ^ (n % 60))) == 0) = true
            · have hL := HL.out wr HBRW.out
              obtain ⟨g, off, c', e1, k0, k1, k2, k3, k4⟩ := hL.cells n e he
              cases e1
              have HOK : Hid (e.Ok wr.heap.size wr) := hL.ok e hme
              obtain ⟨a1, c1', f1⟩ := HOK.out.lo.form
              obtain ⟨a2, c2', f2⟩ := HOK.out.hi.form
              obtain ⟨a3, c3', f3⟩ := HOK.out.va.form
              have HME : Hid (e ∈ L) := hme
              clear he hL hme
              obtain ⟨v1, v2, v3, m⟩ := e
              simp only at f1 f2 f3 k0 k1 k2 k3 k4 HTK
              subst f1 f2 f3
              have HL1 := msg_one wr _ HOK.out
              have HBN : Hid (Below wr.heap.size wr (wr.alloc (.cells #[.int .u64 (m.st : Int), .int .i64 m.kd, .slice a1 m.lo.length c1', .slice a2 m.hi.length c2', .slice a3 m.va.length c3'] 38))) := below_new _ _
              have HOWN' : Hid ((wr.alloc (.cells #[.int .u64 (m.st : Int), .int .i64 m.kd, .slice a1 m.lo.length c1', .slice a2 m.hi.length c2', .slice a3 m.va.length c3'] 38)).ownsRow w10.heap.size 38 5 (.slice ua F.length uc) F.length (flatM F)) := own_same HOWN.out fun b _ hl => HBN.out.block b hl
              have hsz3 := HBR.out.size
              go_wp2_with (at_builtin
                           refine wpList_append_msgs rfl _ _ rfl w10.heap.size (.slice ua F.length uc) _ F [⟨.slice a1 m.lo.length c1', .slice a2 m.hi.length c2', .slice a3 m.va.length c3', m⟩] rfl HOWN'.out rfl HL1 (by simp; omega) (by simp; omega) ?_
                           intro v12 w12 ho12 hk12
                           have HO12 : Hid _ := ho12
                           have HB12 : Hid (Below w10.heap.size w10 w12) := (HBR.out.trans (HBN.out.mono HBR.out.size)).trans hk12.low
                           clear ho12 hk12)
              exact ⟨⟨n + 1, _, by omega, by go_num, by rw [HTK.out]; simp only [msOf, List.map_append]; exact List.Sublist.append HSUB.out (List.Sublist.refl _), by simp; omega, HO12.out, fun x hx => (List.mem_append.1 hx).elim (HMEM.out x) (fun h => by simp only [List.mem_cons, List.not_mem_nil, or_false] at h; rw [h]; exact HME.out), HB12.out⟩, by simp [intOf]; omega⟩
            · have hbit' : (Go.bits BinOp.and IntKind.i64 bits (wrap64 (2 ^ (n % 60))) == 0) = false := by simpa using hbit
              clear hbit he hme
              go_wp2
              exact ⟨⟨n + 1, F, by omega, by go_num, by rw [HTK.out]; exact HSUB.out.trans (List.sublist_append_left _ _), by omega, HOWN.out, HMEM.out, HBR.out⟩, by simp [intOf]; omega⟩
          · have hzl : ¬ (n : Int) < (L.length : Int) := by omega
            have HKC : Hid (checkM z (msOf F) = 0) := checkM_sub HCZ.out (HSUB.out.trans (List.take_sublist _ _))
            have HLO : Hid (∀ e ∈ L, e.m.lo.length ≤ 4294967296) := fun e he => by
              have h1 := sizes_mem (M := msOf L) (m := e.m) (List.mem_map.2 ⟨e, he, rfl⟩)
              have h2 := HS.out
              unfold sizeM at h1
              omega
            have hlL : L.length ≤ 200000000 := by have := sizes_len (msOf L); rw [msOf_length] at this; have := HS.out; omega
            have HSE := settle_any (HL.out wr HBRW.out) HLO.out
            go_wp2_with fail
            refine HSE.mono ?_
            rintro e w13 ⟨v13, F13, C13, rfl, hcu, hms13, hnm13, hfl13, hb13⟩
            have HB13 : Hid (Below wr.heap.size wr w13) := hb13
            have HB13W : Hid (Below W.heap.size W w13) := HBRW.out.trans (hb13.mono HBRW.out.size)
            rw [msOf_length] at hfl13
            have HC13 := check_any (z := z) (hnm13.at (by omega))
            rw [hms13, checkM_sub HCZ.out (settleM_sub _ _)] at HC13
            obtain ⟨a13, c13, f13⟩ := own_form' hnm13.own
            subst f13
            clear hcu hms13 hnm13 hb13 HSE
            go_wp2_with fail
            refine HC13.mono ?_
            rintro e w14 ⟨rfl, hb14⟩
            have HB14 : Hid (Below wr.heap.size wr w14) := HB13.out.trans (hb14.mono HB13.out.size)
            have HB14W : Hid (Below W.heap.size W w14) := HB13W.out.trans (hb14.mono HB13W.out.size)
            clear hb14 HC13
            obtain ⟨x0, x1, x2⟩ := (HX.out.here HB14W.out).cells
            have HWI := within_any (HL.out w14 HB14W.out) (HR.out w14 HB14W.out)
            go_wp2_with fail
            refine HWI.mono ?_
            rintro e w15 ⟨v15, F15, rfl, hms15, hnm15, hfl15, hb15⟩
            have HB15 : Hid (Below wr.heap.size wr w15) := HB14.out.trans (hb15.mono HB14.out.size)
            have HB15W : Hid (Below W.heap.size W w15) := HB14W.out.trans (hb15.mono HB14W.out.size)
            rw [msOf_length] at hfl15
            have HC15 := check_any (z := z) (hnm15.at (by omega))
            rw [hms15] at HC15
            obtain ⟨a15, c15, f15⟩ := own_form' hnm15.own
            subst f15
            obtain ⟨X, hX⟩ : ∃ X, X = checkM z (withinM (msOf L) r) := ⟨_, rfl⟩
            have HWC : Hid (r.lo.length ≤ z.toNat / 16 → r.hi.length ≤ z.toNat / 16 → X = 0) := fun h1 h2 => by rw [hX]; exact within_check HCZ.out h1 h2
            rw [← hX] at HC15
            clear hms15 hnm15 hb15 HWI x0 x1 x2 hX
            go_wp2_with fail
            refine HC15.mono ?_
            rintro e w16 ⟨rfl, hb16⟩
            have HB16 : Hid (Below wr.heap.size wr w16) := HB15.out.trans (hb16.mono HB15.out.size)
            have HB16W : Hid (Below W.heap.size W w16) := HB15W.out.trans (hb16.mono HB15W.out.size)
            obtain ⟨x0, x1, x2⟩ := (HX.out.here HB16W.out).cells
            have HCF := check_any (z := z) (msgs_own (own_same HOWN.out fun b _ hl => HB16.out.block b hl) (fun e he => (HL.out w16 HB16W.out).ok e (HMEM.out e he)) (by omega))
            rw [HKC.out] at HCF
            have HSD : Hid (Sized z) := (checkM_zero.1 HCZ.out).1
            clear hb16 HC15
            rcases HSD.out with hz | hz | hz | hz
            · subst hz
              by_cases h1 : r.lo.length ≤ 32
              · have q1 : (r.lo.length : Int) ≤ 32 := by omega
                by_cases h2 : r.hi.length ≤ 32
                · have q2 : (r.hi.length : Int) ≤ 32 := by omega
                  have hX0 : X = 0 := HWC.out h1 h2
                  subst hX0
                  clear h1 h2
                  go_wp2_with fail
                  refine HCF.mono ?_
                  rintro e w17 ⟨rfl, hb17⟩
                  have HB17 : Hid (Below w.heap.size w w17) := HLE.out w17 (HB16W.out.trans (hb17.mono HB16W.out.size))
                  clear hb17 HCF
                  go_wp2
                  go_ret
                  exact ⟨by first | rfl | simp, HB17.out⟩
                · have q2 : ¬ (r.hi.length : Int) ≤ 32 := by omega
                  clear h1 h2
                  go_wp2_with fail
                  refine HCF.mono ?_
                  rintro e w17 ⟨rfl, hb17⟩
                  have HB17 : Hid (Below w.heap.size w w17) := HLE.out w17 (HB16W.out.trans (hb17.mono HB16W.out.size))
                  clear hb17 HCF
                  go_wp2
                  go_ret
                  exact ⟨by first | rfl | simp, HB17.out⟩
              · have q1 : ¬ (r.lo.length : Int) ≤ 32 := by omega
                clear h1
                go_wp2_with fail
                refine HCF.mono ?_
                rintro e w17 ⟨rfl, hb17⟩
                have HB17 : Hid (Below w.heap.size w w17) := HLE.out w17 (HB16W.out.trans (hb17.mono HB16W.out.size))
                clear hb17 HCF
                go_wp2
                go_ret
                exact ⟨by first | rfl | simp, HB17.out⟩
            · subst hz
              by_cases h1 : r.lo.length ≤ 64
              · have q1 : (r.lo.length : Int) ≤ 64 := by omega
                by_cases h2 : r.hi.length ≤ 64
                · have q2 : (r.hi.length : Int) ≤ 64 := by omega
                  have hX0 : X = 0 := HWC.out h1 h2
                  subst hX0
                  clear h1 h2
                  go_wp2_with fail
                  refine HCF.mono ?_
                  rintro e w17 ⟨rfl, hb17⟩
                  have HB17 : Hid (Below w.heap.size w w17) := HLE.out w17 (HB16W.out.trans (hb17.mono HB16W.out.size))
                  clear hb17 HCF
                  go_wp2
                  go_ret
                  exact ⟨by first | rfl | simp, HB17.out⟩
                · have q2 : ¬ (r.hi.length : Int) ≤ 64 := by omega
                  clear h1 h2
                  go_wp2_with fail
                  refine HCF.mono ?_
                  rintro e w17 ⟨rfl, hb17⟩
                  have HB17 : Hid (Below w.heap.size w w17) := HLE.out w17 (HB16W.out.trans (hb17.mono HB16W.out.size))
                  clear hb17 HCF
                  go_wp2
                  go_ret
                  exact ⟨by first | rfl | simp, HB17.out⟩
              · have q1 : ¬ (r.lo.length : Int) ≤ 64 := by omega
                clear h1
                go_wp2_with fail
                refine HCF.mono ?_
                rintro e w17 ⟨rfl, hb17⟩
                have HB17 : Hid (Below w.heap.size w w17) := HLE.out w17 (HB16W.out.trans (hb17.mono HB16W.out.size))
                clear hb17 HCF
                go_wp2
                go_ret
                exact ⟨by first | rfl | simp, HB17.out⟩
            · subst hz
              by_cases h1 : r.lo.length ≤ 128
              · have q1 : (r.lo.length : Int) ≤ 128 := by omega
                by_cases h2 : r.hi.length ≤ 128
                · have q2 : (r.hi.length : Int) ≤ 128 := by omega
                  have hX0 : X = 0 := HWC.out h1 h2
                  subst hX0
                  clear h1 h2
                  go_wp2_with fail
                  refine HCF.mono ?_
                  rintro e w17 ⟨rfl, hb17⟩
                  have HB17 : Hid (Below w.heap.size w w17) := HLE.out w17 (HB16W.out.trans (hb17.mono HB16W.out.size))
                  clear hb17 HCF
                  go_wp2
                  go_ret
                  exact ⟨by first | rfl | simp, HB17.out⟩
                · have q2 : ¬ (r.hi.length : Int) ≤ 128 := by omega
                  clear h1 h2
                  go_wp2_with fail
                  refine HCF.mono ?_
                  rintro e w17 ⟨rfl, hb17⟩
                  have HB17 : Hid (Below w.heap.size w w17) := HLE.out w17 (HB16W.out.trans (hb17.mono HB16W.out.size))
                  clear hb17 HCF
                  go_wp2
                  go_ret
                  exact ⟨by first | rfl | simp, HB17.out⟩
              · have q1 : ¬ (r.lo.length : Int) ≤ 128 := by omega
                clear h1
                go_wp2_with fail
                refine HCF.mono ?_
                rintro e w17 ⟨rfl, hb17⟩
                have HB17 : Hid (Below w.heap.size w w17) := HLE.out w17 (HB16W.out.trans (hb17.mono HB16W.out.size))
                clear hb17 HCF
                go_wp2
                go_ret
                exact ⟨by first | rfl | simp, HB17.out⟩
            · subst hz
              by_cases h1 : r.lo.length ≤ 256
              · have q1 : (r.lo.length : Int) ≤ 256 := by omega
                by_cases h2 : r.hi.length ≤ 256
                · have q2 : (r.hi.length : Int) ≤ 256 := by omega
                  have hX0 : X = 0 := HWC.out h1 h2
                  subst hX0
                  clear h1 h2
                  go_wp2_with fail
                  refine HCF.mono ?_
                  rintro e w17 ⟨rfl, hb17⟩
                  have HB17 : Hid (Below w.heap.size w w17) := HLE.out w17 (HB16W.out.trans (hb17.mono HB16W.out.size))
                  clear hb17 HCF
                  go_wp2
                  go_ret
                  exact ⟨by first | rfl | simp, HB17.out⟩
                · have q2 : ¬ (r.hi.length : Int) ≤ 256 := by omega
                  clear h1 h2
                  go_wp2_with fail
                  refine HCF.mono ?_
                  rintro e w17 ⟨rfl, hb17⟩
                  have HB17 : Hid (Below w.heap.size w w17) := HLE.out w17 (HB16W.out.trans (hb17.mono HB16W.out.size))
                  clear hb17 HCF
                  go_wp2
                  go_ret
                  exact ⟨by first | rfl | simp, HB17.out⟩
              · have q1 : ¬ (r.lo.length : Int) ≤ 256 := by omega
                clear h1
                go_wp2_with fail
                refine HCF.mono ?_
                rintro e w17 ⟨rfl, hb17⟩
                have HB17 : Hid (Below w.heap.size w w17) := HLE.out w17 (HB16W.out.trans (hb17.mono HB16W.out.size))
                clear hb17 HCF
                go_wp2
                go_ret
                exact ⟨by first | rfl | simp, HB17.out⟩
      · have hcz : ((C : Int) != 0) = true := by simp; omega
        have HTE : Hid (T = []) := by rw [Hid, HT.out, if_neg hC0]
        have hT0 : T.length = 0 := by rw [HTE.out]; rfl
        rw [hT0]
        have HEND : Hid (Below w.heap.size w wT) := HLE.out wT HBT.out
        clear hC0 hT0
        go_wp2
        go_ret
        exact ⟨by first | rfl | simp, HEND.out⟩
  · have hzb : (2147483647 : Int) < (s : Int) := by omega
    go_wp2
    go_ret
    exact ⟨rfl, HEND2.out⟩
end Go.Proofs.Ytkjjgbaoicjbaab
