/- BranchForm's walk: there and back, one form. -/
import Derived.Test.YtaehchijeinloaaAlive
import Derived.Test.YtaehchijeinloaaPick
namespace Go.Proofs.Ytaehchijeinloaa
open Go.RowKit

theorem new0 (w : World) : NewKey w.heap.size (w.alloc (.cells #[] 5)) (.slice (some ⟨w.heap.size, 0, none⟩) 0 0) [] :=
  ⟨World.ownsRow_made w #[] 0 (Nat.le_refl _) (Nat.zero_le _) (by simp), by simp⟩
theorem u8_wrap (z : Int) : IntKind.u8.wrap z = ((UInt8.ofNat (IntKind.u8.wrap z).toNat).toNat : Int) := by
  have h : 0 ≤ IntKind.u8.wrap z ∧ IntKind.u8.wrap z < 256 := by
    simp [IntKind.wrap, IntKind.bits, IntKind.signed]; omega
  rw [UInt8.toNat_ofNat']
  omega
theorem check_zero_small {z : Int} {d : Kd} (h : checkK z d = 0) : d.ps.length * 8 ≤ 140737488355328 ∧ d.ks.length * 24 ≤ 140737488355328 ∧ ∀ p ∈ d.ps, -9223372036854775808 ≤ p ∧ p ≤ 9223372036854775807 := by
  have h1 := check_small h
  refine ⟨by omega, by omega, fun p hp => ?_⟩
  have := (pages_iff.1 (checkK_ok h).2.2.2.1).1 p hp
  omega

set_option maxHeartbeats 6400000 in
set_option maxRecDepth 100000 in
theorem form_walk {w : World} {v vb : Value} {ps : List Int} {L : List Kc} {b : Key} {z at' : Int} (_ : (Lit.int .i64 z).wf = true) (h : KidsAt w.heap.size w v ps L) (hb : KeyAt w vb b) (hat : (Lit.int .i64 at').wf = true) :
    Calls Try.prog 8 #[.int .i64 z, v, vb, .int .i64 at'] w fun e w' => e = .returned (.bool true) ∧ Below w.heap.size w w' := by
  obtain ⟨vp, vk, rfl, h1, h2⟩ := h.is
  obtain ⟨a1, c1, rfl⟩ := h1.form
  obtain ⟨a2, c2, rfl⟩ := h2.form
  have hs1 := h1.short
  have hs2 := h2.short
  have HFT : Hid (∀ p ∈ ps, -9223372036854775808 ≤ p ∧ p ≤ 9223372036854775807) := h1.fits
  obtain ⟨ab, cb, rfl⟩ := hb.in.form
  obtain ⟨W, hW⟩ : ∃ W, W = w.alloc (.cells #[.slice a1 ps.length c1, .slice a2 L.length c2] 26) := ⟨_, rfl⟩
  have HBW : Hid (Below w.heap.size w W) := by rw [hW]; exact below_new _ _
  have HX : Hid (KBox W w.heap.size (.slice a1 ps.length c1) (.slice a2 L.length c2)) := by rw [hW]; exact KBox.new _ _ _
  have HKI : Hid (∀ W', Below W.heap.size W W' → KidsAt W'.heap.size W' (.agg #[.slice a1 ps.length c1, .slice a2 L.length c2]) ps L) := fun W' hb => (KidsAt.here ⟨_, _, rfl, h1, h2⟩ HBW.out).here hb
  have HKB : Hid (KeyAt W (.slice ab b.length cb) b) := hb.here HBW.out
  clear h h1 h2 hb
  go_enter Try.func8, Try.ntmps8
  go_wp2_with fail
  rw [← hW]
  clear hW
  refine (alive_any W).mono ?_
  rintro e w1 ⟨rfl, hb1⟩
  have HB1 : Hid (Below W.heap.size W w1) := hb1
  have HD := decode_any (z := z) (HKB.out.here hb1)
  clear hb1
  go_wp2_with fail
  refine HD.mono ?_
  rintro e w2 ⟨v2, rfl, hn2, hb2⟩
  have HB2 : Hid (Below W.heap.size W w2) := HB1.out.trans (hb2.mono HB1.out.size)
  obtain ⟨vp2, vk2, F2, rfl, hp2, hq2, hk2⟩ := hn2.is
  obtain ⟨a3, c3, rfl⟩ := ints_form hp2 rfl
  obtain ⟨a4, c4, e4⟩ : ∃ a c, vk2 = .slice a F2.length c := (own_cells hq2.own (by simp)).form.elim fun a h => h.elim fun c e => ⟨a, c, by rw [List.length_map] at e; exact e⟩
  subst e4
  clear HD hb2
  by_cases hde : decErr z b = 0
  · have hdk := decErr_ok.1 hde
    obtain ⟨hck0, henc⟩ := decK_iff.1 hdk
    obtain ⟨hz1, hz2, hz3⟩ := check_zero_small hck0
    obtain ⟨d, hd⟩ : ∃ d, d = decD z b := ⟨_, rfl⟩
    rw [← hd] at hck0 henc hz1 hz2 hz3 hp2 hk2
    rw [← hd, hde]
    have hl2 : F2.length = d.ks.length := by rw [← keysOf_length, hk2]
    obtain ⟨W2, hW2⟩ : ∃ W2, W2 = w2.alloc (.cells #[.slice a3 d.ps.length c3, .slice a4 F2.length c4] 26) := ⟨_, rfl⟩
    have hbw2 : Below w2.heap.size w2 W2 := by rw [hW2]; exact below_new _ _
    have HBW2 : Hid (Below W.heap.size W W2) := HB2.out.trans (hbw2.mono HB2.out.size)
    have HX2 : Hid (KBox W2 w2.heap.size (.slice a3 d.ps.length c3) (.slice a4 F2.length c4)) := by rw [hW2]; exact KBox.new _ _ _
    have HE0 := encode_any (z := z) (KidsAt.here (w := w2) (v := .agg #[.slice a3 d.ps.length c3, .slice a4 F2.length c4]) (ps := d.ps) (L := F2) ⟨_, _, rfl, hp2.ints hz1 hz3, hq2.at (by omega)⟩ hbw2)
    rw [show kd d.ps F2 = d by rw [kd, hk2], hck0, if_pos rfl, henc] at HE0
    clear hdk hck0 henc hz1 hz2 hz3 hp2 hq2 hk2 hl2 hd hde hn2 hbw2
    go_wp2_with fail
    rw [← hW2]
    clear hW2
    refine HE0.mono ?_
    rintro e w3 ⟨v3, rfl, hk3, hb3⟩
    obtain ⟨ax, nx, cx, ex⟩ := hk3.shape
    subst ex
    have HB3 : Hid (Below W.heap.size W w3) := HBW2.out.trans (hb3.mono HBW2.out.size)
    have e3 := conv_key hk3.at
    have e4 := conv_key (HKB.out.here HB3.out)
    have s1 := strB_eq b b
    have s2 := strB_ne b b
    rw [decide_eq_true rfl] at s1 s2
    generalize strB b = S at *
    clear HE0 hk3 hb3
    obtain ⟨x0, x1⟩ := (HX.out.here HB3.out).cells
    obtain ⟨wT, hwT⟩ : ∃ wT, wT = w3 := ⟨_, rfl⟩
    have HBT : Hid (Below W.heap.size W wT) := by rw [hwT]; exact HB3.out
    go_wp2_with fail
    rw [← hwT]
    clear hwT e3 e4 x0 x1
    have HE := encode_any (z := z) (HKI.out wT HBT.out)
    by_cases hck : checkK z (kd ps L) = 0
    · rw [hck, if_pos rfl] at HE
      obtain ⟨T, hT⟩ : ∃ T, T = encK (kd ps L) := ⟨_, rfl⟩
      have hTl : T.length = bytesK (kd ps L) := by rw [hT, encK_length]
      have hTs : T.length ≤ 4064 := by rw [hTl]; exact (check_small hck).2.2.1
      have hT0 : 0 < T.length := by rw [hTl]; unfold bytesK; omega
      have hD0 : decK z T = some (kd ps L) := decK_iff.2 ⟨hck, hT.symm⟩
      have HDD : Hid (decD z T = kd ps L) := by unfold decD; rw [Hid, hD0]; rfl
      have HDE : Hid (decErr z T = 0) := decErr_ok.2 (by rw [HDD.out]; exact hD0)
      have HSZ : Hid (Sized z) := (checkK_ok hck).1
      have hbad : ∀ b, decK z b = none → decErr z b = 65 := fun b h => by
        unfold decErr; rw [if_neg (by simpa using HSZ.out), h]; rfl
      have HCUT : Hid (decErr z (T.take (pickK at' T.length)) = 65) := hbad _ (by rw [hT]; exact decK_cut hck _ (by rw [← hT]; exact pickK_lt _ _ hT0))
      have HMORE : Hid (∀ c, decErr z (T ++ [c]) = 65) := fun c => hbad _ (by rw [hT]; exact decK_more hck c)
      have HBY := bytes_any (HKI.out wT HBT.out)
      have HNB : Hid (wrap64 (bytesK (kd ps L)) = T.length) := by rw [Hid, ← hTl, wrap_of _ (by omega) (by omega)]
      rw [← hT] at HE
      clear hT hTl hD0 hbad hck HBY
      refine HE.mono ?_
      rintro e1 w6 ⟨v6, rfl, hk6, hb6⟩
      obtain ⟨a6, c6, e6⟩ := hk6.at.in.form
      subst e6
      have HB6 : Hid (Below W.heap.size W w6) := HBT.out.trans (hb6.mono HBT.out.size)
      have HK6 : Hid (KeyAt w6 (.slice a6 T.length c6) T) := hk6.at
      have hc6 : T.length ≤ c6 := by
        obtain ⟨⟨a, c, e, _, h, _⟩, _⟩ := hk6.at
        cases e; exact h
      have HD := decode_any (z := z) HK6.out
      rw [HDE.out, HDD.out] at HD
      clear HE hk6 hb6
      go_wp2_with fail
      refine HD.mono ?_
      rintro e1 w7 ⟨v7, rfl, hn7, hb7⟩
      obtain ⟨L7, hk7, hL7⟩ := hn7.at (show ps.length * 8 ≤ _ from hs1) (by show (keysOf L).length * 24 ≤ _; rw [keysOf_length]; exact hs2) HFT.out
      replace hk7 : KidsAt w7.heap.size w7 v7 ps L7 := hk7
      obtain ⟨vp7, vk7, rfl, hp7, hq7⟩ := hk7.is
      obtain ⟨a7, c7, rfl⟩ := hp7.form
      obtain ⟨a8, c8, rfl⟩ := hq7.form
      have HB7 : Hid (Below W.heap.size W w7) := HB6.out.trans (hb7.mono HB6.out.size)
      have HK7 : Hid (KeyAt w7 (.slice a6 T.length c6) T) := HK6.out.here hb7
      have HKY : Hid (KidsAt w7.heap.size w7 (.agg #[.slice a7 ps.length c7, .slice a8 L7.length c8]) ps L7 ∧ keysOf L7 = keysOf L) := ⟨hk7, hL7⟩
      obtain ⟨W7, hW7⟩ : ∃ W7, W7 = w7.alloc (.cells #[.slice a7 ps.length c7, .slice a8 L7.length c8] 26) := ⟨_, rfl⟩
      have hbw7 : Below w7.heap.size w7 W7 := by rw [hW7]; exact below_new _ _
      have HBW7 : Hid (Below W.heap.size W W7) := HB7.out.trans (hbw7.mono HB7.out.size)
      have HX7 : Hid (KBox W7 w7.heap.size (.slice a7 ps.length c7) (.slice a8 L7.length c8)) := by rw [hW7]; exact KBox.new _ _ _
      have HKW : Hid (KeyAt W7 (.slice a6 T.length c6) T) := HK7.out.here hbw7
      have HKYW : Hid (KidsAt W7.heap.size W7 (.agg #[.slice a7 ps.length c7, .slice a8 L7.length c8]) ps L7) := HKY.out.1.here hbw7
      clear HD hn7 hk7 hp7 hq7 hb7 hbw7 hL7
      go_upto_region 11 with fail
      rw [← hW7]
      clear hW7
      have HPK := pick_any W7 at' T.length hat hT0 (by omega)
      have hpl : pickK at' T.length ≤ c6 := Nat.le_trans (Nat.le_of_lt (pickK_lt at' T.length hT0)) hc6
      have hplz : (pickK at' T.length : Int) ≤ (c6 : Int) := by omega
      have HTK : Hid (KeyAt W7 (.slice a6 (pickK at' T.length) c6) (T.take (pickK at' T.length))) := (HKW.out.in.take (pickK at' T.length) c6 (Nat.le_of_lt (pickK_lt at' T.length hT0)) hpl (Nat.le_refl _)).at (Nat.le_refl _)
      have HD2 := decode_any (z := z) HTK.out
      rw [HCUT.out] at HD2
      generalize pickK at' T.length = PK at *
      go_wp2_with fail
      refine HPK.mono ?_
      rintro e1 w8 ⟨rfl, hw8⟩
      obtain rfl := hw8.symm
      go_wp2_with fail
      refine HD2.mono ?_
      rintro e1 w9 ⟨v9, rfl, hn9, hb9⟩
      obtain ⟨vp9, vk9, F9, rfl, hp9, hq9, _⟩ := hn9.is
      obtain ⟨a9, c9, rfl⟩ := ints_form hp9 rfl
      obtain ⟨a10, c10, e10⟩ : ∃ a c, vk9 = .slice a F9.length c := (own_cells hq9.own (by simp)).form.elim fun a h => h.elim fun c e => ⟨a, c, by rw [List.length_map] at e; exact e⟩
      subst e10
      generalize (decD z (T.take PK)).ps.length = n9 at *
      obtain ⟨W9, hW9⟩ : ∃ W9, W9 = w9.alloc (.cells #[.slice a9 n9 c9, .slice a10 F9.length c10] 26) := ⟨_, rfl⟩
      have hbw9 : Below W7.heap.size W7 W9 := by rw [hW9]; exact hb9.trans ((below_new _ _).mono hb9.size)
      have HB79 : Hid (Below W7.heap.size W7 W9) := hbw9
      have HBW9 : Hid (Below W.heap.size W W9) := HBW7.out.trans (hbw9.mono HBW7.out.size)
      have HKW9 : Hid (KeyAt W9 (.slice a6 T.length c6) T) := HKW.out.here hbw9
      clear HPK HD2 hn9 hp9 hq9 hb9 hbw9 HTK
      go_upto_region 12 with fail
      rw [← hW9]
      clear hW9
      go_wp2_with (first
        | (at_builtin; refine wpList_append_key rfl _ _ rfl W9.heap.size (.slice (some ⟨W9.heap.size, 0, none⟩) 0 0) (.slice a6 T.length c6) [] T rfl (new0 W9) rfl (HKW9.out.here (below_new _ _)) (by simp; omega) (by simp) ?_
           intro vC wC hvC hkC
           have HVC : Hid (NewKey W9.heap.size wC vC T) := hvC
           have HBC : Hid (Below W9.heap.size W9 wC) := (below_new _ _).trans hkC.low
           clear hvC hkC)
        | (at_builtin; refine wpList_append_key rfl _ _ rfl W9.heap.size vC _ T [UInt8.ofNat (IntKind.u8.wrap at').toNat] rfl (HVC.out.here (below_new _ _)) rfl (lit1 (u8_wrap at')) (by simp; omega) (by have := HBC.out.size; simp; omega) ?_
           intro vD wD hvD hkD
           have HVD : Hid (NewKey W9.heap.size wD vD (T ++ [UInt8.ofNat (IntKind.u8.wrap at').toNat])) := hvD
           have HBD : Hid (Below W9.heap.size W9 wD) := (HBC.out.alloc HBC.out.size _).trans hkD.low
           clear hvD hkD))
      have HD3 := decode_any (z := z) HVD.out.at
      rw [HMORE.out] at HD3
      refine HD3.mono ?_
      rintro e1 w11 ⟨v11, rfl, hn11, hb11⟩
      obtain ⟨vp11, vk11, F11, rfl, hp11, hq11, _⟩ := hn11.is
      obtain ⟨a11, c11, rfl⟩ := ints_form hp11 rfl
      obtain ⟨a12, c12, e12⟩ : ∃ a c, vk11 = .slice a F11.length c := (own_cells hq11.own (by simp)).form.elim fun a h => h.elim fun c e => ⟨a, c, by rw [List.length_map] at e; exact e⟩
      subst e12
      generalize (decD z (T ++ [UInt8.ofNat (IntKind.u8.wrap at').toNat])).ps.length = n11 at *
      obtain ⟨W11, hW11⟩ : ∃ W11, W11 = w11.alloc (.cells #[.slice a11 n11 c11, .slice a12 F11.length c12] 26) := ⟨_, rfl⟩
      have hbw11 : Below W9.heap.size W9 W11 := by rw [hW11]; exact (HBD.out.trans (hb11.mono HBD.out.size)).trans ((below_new _ _).mono (Nat.le_trans HBD.out.size hb11.size))
      have HB711 : Hid (Below W7.heap.size W7 W11) := HB79.out.trans (hbw11.mono HB79.out.size)
      have HBW11 : Hid (Below W.heap.size W W11) := HBW9.out.trans (hbw11.mono HBW9.out.size)
      obtain ⟨y0, y1⟩ := (HX7.out.here HB711.out).cells
      obtain ⟨x0, x1⟩ := (HX.out.here HBW11.out).cells
      have HSM := same_any (HKYW.out.here HB711.out) (HKI.out W11 HBW11.out)
      rw [show kd ps L7 = kd ps L by rw [kd, kd, HKY.out.2], decide_eq_true rfl] at HSM
      clear HD3 hn11 hp11 hq11 hb11 hbw11 HKYW HKY
      go_upto_region 13 with fail
      rw [← hW11]
      clear hW11
      go_wp2_with fail
      refine HSM.mono ?_
      rintro e1 w12 ⟨rfl, hb12⟩
      have HB12 : Hid (Below W.heap.size W w12) := HBW11.out.trans (hb12.mono HBW11.out.size)
      have HBY := bytes_any (HKI.out w12 HB12.out)
      rw [HNB.out] at HBY
      obtain ⟨x0', x1'⟩ := (HX.out.here HB12.out).cells
      clear HSM hb12 x0 x1 y0 y1
      go_wp2_with fail
      refine HBY.mono ?_
      rintro e1 w13 ⟨rfl, hb13⟩
      have HB13 : Hid (Below w.heap.size w w13) := HBW.out.trans ((HB12.out.trans (hb13.mono HB12.out.size)).mono HBW.out.size)
      clear HBY hb13
      go_wp2
      go_ret
      exact ⟨by first | rfl | simp, HB13.out⟩
    · have hcz : ((checkK z (kd ps L) : Int) != 0) = true := by simp; omega
      rw [if_neg hck] at HE
      have HCK := fun w' h => check_any (z := z) (HKI.out w' h)
      obtain ⟨C, hC⟩ : ∃ C, C = checkK z (kd ps L) := ⟨_, rfl⟩
      rw [← hC] at HE hcz
      have HCC : Hid (∀ w', Below W.heap.size W w' → Calls Try.prog 25 #[.int .i64 z, .agg #[.slice a1 ps.length c1, .slice a2 L.length c2]] w' fun r w'' => r = .returned (.int .i64 (C : Nat)) ∧ Below w'.heap.size w' w'') := fun w' h => by rw [hC]; exact HCK w' h
      clear hck hC HCK
      refine HE.mono ?_
      rintro e1 w6 ⟨v6, rfl, hk6, hb6⟩
      obtain ⟨a6, c6, e6⟩ := hk6.at.in.form
      subst e6
      have HB6 : Hid (Below W.heap.size W w6) := HBT.out.trans (hb6.mono HBT.out.size)
      obtain ⟨x0, x1⟩ := (HX.out.here HB6.out).cells
      have HC6 := HCC.out w6 HB6.out
      clear HE hk6 hb6 HCC
      go_wp2_with fail
      refine HC6.mono ?_
      rintro e1 w7 ⟨rfl, hb7⟩
      have HB7 : Hid (Below w.heap.size w w7) := HBW.out.trans ((HB6.out.trans (hb7.mono HB6.out.size)).mono HBW.out.size)
      clear HC6 hb7
      go_wp2
      go_ret
      exact ⟨by first | rfl | simp, HB7.out⟩
  · have hdz : ((decErr z b : Int) == 0) = false := by rw [beq_eq_false_iff_ne]; omega
    generalize (decD z b).ps.length = n3 at *
    obtain ⟨W2, hW2⟩ : ∃ W2, W2 = w2.alloc (.cells #[.slice a3 n3 c3, .slice a4 F2.length c4] 26) := ⟨_, rfl⟩
    have HBW2 : Hid (Below W.heap.size W W2) := by rw [hW2]; exact HB2.out.trans ((below_new _ _).mono HB2.out.size)
    generalize decErr z b = D at *
    clear hp2 hq2 hk2 hde hn2
    obtain ⟨wT, hwT⟩ : ∃ wT, wT = W2 := ⟨_, rfl⟩
    have HBT : Hid (Below W.heap.size W wT) := by rw [hwT]; exact HBW2.out
    go_upto_region 3 with fail
    rw [← hW2, ← hwT]
    clear hW2 hwT
    obtain ⟨x0, x1⟩ := (HX.out.here HBT.out).cells
    go_wp2_with fail
    have HE := encode_any (z := z) (HKI.out wT HBT.out)
    by_cases hck : checkK z (kd ps L) = 0
    · rw [hck, if_pos rfl] at HE
      obtain ⟨T, hT⟩ : ∃ T, T = encK (kd ps L) := ⟨_, rfl⟩
      have hTl : T.length = bytesK (kd ps L) := by rw [hT, encK_length]
      have hTs : T.length ≤ 4064 := by rw [hTl]; exact (check_small hck).2.2.1
      have hT0 : 0 < T.length := by rw [hTl]; unfold bytesK; omega
      have hD0 : decK z T = some (kd ps L) := decK_iff.2 ⟨hck, hT.symm⟩
      have HDD : Hid (decD z T = kd ps L) := by unfold decD; rw [Hid, hD0]; rfl
      have HDE : Hid (decErr z T = 0) := decErr_ok.2 (by rw [HDD.out]; exact hD0)
      have HSZ : Hid (Sized z) := (checkK_ok hck).1
      have hbad : ∀ b, decK z b = none → decErr z b = 65 := fun b h => by
        unfold decErr; rw [if_neg (by simpa using HSZ.out), h]; rfl
      have HCUT : Hid (decErr z (T.take (pickK at' T.length)) = 65) := hbad _ (by rw [hT]; exact decK_cut hck _ (by rw [← hT]; exact pickK_lt _ _ hT0))
      have HMORE : Hid (∀ c, decErr z (T ++ [c]) = 65) := fun c => hbad _ (by rw [hT]; exact decK_more hck c)
      have HBY := bytes_any (HKI.out wT HBT.out)
      have HNB : Hid (wrap64 (bytesK (kd ps L)) = T.length) := by rw [Hid, ← hTl, wrap_of _ (by omega) (by omega)]
      rw [← hT] at HE
      clear hT hTl hD0 hbad hck HBY
      refine HE.mono ?_
      rintro e1 w6 ⟨v6, rfl, hk6, hb6⟩
      obtain ⟨a6, c6, e6⟩ := hk6.at.in.form
      subst e6
      have HB6 : Hid (Below W.heap.size W w6) := HBT.out.trans (hb6.mono HBT.out.size)
      have HK6 : Hid (KeyAt w6 (.slice a6 T.length c6) T) := hk6.at
      have hc6 : T.length ≤ c6 := by
        obtain ⟨⟨a, c, e, _, h, _⟩, _⟩ := hk6.at
        cases e; exact h
      have HD := decode_any (z := z) HK6.out
      rw [HDE.out, HDD.out] at HD
      clear HE hk6 hb6
      go_wp2_with fail
      refine HD.mono ?_
      rintro e1 w7 ⟨v7, rfl, hn7, hb7⟩
      obtain ⟨L7, hk7, hL7⟩ := hn7.at (show ps.length * 8 ≤ _ from hs1) (by show (keysOf L).length * 24 ≤ _; rw [keysOf_length]; exact hs2) HFT.out
      replace hk7 : KidsAt w7.heap.size w7 v7 ps L7 := hk7
      obtain ⟨vp7, vk7, rfl, hp7, hq7⟩ := hk7.is
      obtain ⟨a7, c7, rfl⟩ := hp7.form
      obtain ⟨a8, c8, rfl⟩ := hq7.form
      have HB7 : Hid (Below W.heap.size W w7) := HB6.out.trans (hb7.mono HB6.out.size)
      have HK7 : Hid (KeyAt w7 (.slice a6 T.length c6) T) := HK6.out.here hb7
      have HKY : Hid (KidsAt w7.heap.size w7 (.agg #[.slice a7 ps.length c7, .slice a8 L7.length c8]) ps L7 ∧ keysOf L7 = keysOf L) := ⟨hk7, hL7⟩
      obtain ⟨W7, hW7⟩ : ∃ W7, W7 = w7.alloc (.cells #[.slice a7 ps.length c7, .slice a8 L7.length c8] 26) := ⟨_, rfl⟩
      have hbw7 : Below w7.heap.size w7 W7 := by rw [hW7]; exact below_new _ _
      have HBW7 : Hid (Below W.heap.size W W7) := HB7.out.trans (hbw7.mono HB7.out.size)
      have HX7 : Hid (KBox W7 w7.heap.size (.slice a7 ps.length c7) (.slice a8 L7.length c8)) := by rw [hW7]; exact KBox.new _ _ _
      have HKW : Hid (KeyAt W7 (.slice a6 T.length c6) T) := HK7.out.here hbw7
      have HKYW : Hid (KidsAt W7.heap.size W7 (.agg #[.slice a7 ps.length c7, .slice a8 L7.length c8]) ps L7) := HKY.out.1.here hbw7
      clear HD hn7 hk7 hp7 hq7 hb7 hbw7 hL7
      go_upto_region 11 with fail
      rw [← hW7]
      clear hW7
      have HPK := pick_any W7 at' T.length hat hT0 (by omega)
      have hpl : pickK at' T.length ≤ c6 := Nat.le_trans (Nat.le_of_lt (pickK_lt at' T.length hT0)) hc6
      have hplz : (pickK at' T.length : Int) ≤ (c6 : Int) := by omega
      have HTK : Hid (KeyAt W7 (.slice a6 (pickK at' T.length) c6) (T.take (pickK at' T.length))) := (HKW.out.in.take (pickK at' T.length) c6 (Nat.le_of_lt (pickK_lt at' T.length hT0)) hpl (Nat.le_refl _)).at (Nat.le_refl _)
      have HD2 := decode_any (z := z) HTK.out
      rw [HCUT.out] at HD2
      generalize pickK at' T.length = PK at *
      go_wp2_with fail
      refine HPK.mono ?_
      rintro e1 w8 ⟨rfl, hw8⟩
      obtain rfl := hw8.symm
      go_wp2_with fail
      refine HD2.mono ?_
      rintro e1 w9 ⟨v9, rfl, hn9, hb9⟩
      obtain ⟨vp9, vk9, F9, rfl, hp9, hq9, _⟩ := hn9.is
      obtain ⟨a9, c9, rfl⟩ := ints_form hp9 rfl
      obtain ⟨a10, c10, e10⟩ : ∃ a c, vk9 = .slice a F9.length c := (own_cells hq9.own (by simp)).form.elim fun a h => h.elim fun c e => ⟨a, c, by rw [List.length_map] at e; exact e⟩
      subst e10
      generalize (decD z (T.take PK)).ps.length = n9 at *
      obtain ⟨W9, hW9⟩ : ∃ W9, W9 = w9.alloc (.cells #[.slice a9 n9 c9, .slice a10 F9.length c10] 26) := ⟨_, rfl⟩
      have hbw9 : Below W7.heap.size W7 W9 := by rw [hW9]; exact hb9.trans ((below_new _ _).mono hb9.size)
      have HB79 : Hid (Below W7.heap.size W7 W9) := hbw9
      have HBW9 : Hid (Below W.heap.size W W9) := HBW7.out.trans (hbw9.mono HBW7.out.size)
      have HKW9 : Hid (KeyAt W9 (.slice a6 T.length c6) T) := HKW.out.here hbw9
      clear HPK HD2 hn9 hp9 hq9 hb9 hbw9 HTK
      go_upto_region 12 with fail
      rw [← hW9]
      clear hW9
      go_wp2_with (first
        | (at_builtin; refine wpList_append_key rfl _ _ rfl W9.heap.size (.slice (some ⟨W9.heap.size, 0, none⟩) 0 0) (.slice a6 T.length c6) [] T rfl (new0 W9) rfl (HKW9.out.here (below_new _ _)) (by simp; omega) (by simp) ?_
           intro vC wC hvC hkC
           have HVC : Hid (NewKey W9.heap.size wC vC T) := hvC
           have HBC : Hid (Below W9.heap.size W9 wC) := (below_new _ _).trans hkC.low
           clear hvC hkC)
        | (at_builtin; refine wpList_append_key rfl _ _ rfl W9.heap.size vC _ T [UInt8.ofNat (IntKind.u8.wrap at').toNat] rfl (HVC.out.here (below_new _ _)) rfl (lit1 (u8_wrap at')) (by simp; omega) (by have := HBC.out.size; simp; omega) ?_
           intro vD wD hvD hkD
           have HVD : Hid (NewKey W9.heap.size wD vD (T ++ [UInt8.ofNat (IntKind.u8.wrap at').toNat])) := hvD
           have HBD : Hid (Below W9.heap.size W9 wD) := (HBC.out.alloc HBC.out.size _).trans hkD.low
           clear hvD hkD))
      have HD3 := decode_any (z := z) HVD.out.at
      rw [HMORE.out] at HD3
      refine HD3.mono ?_
      rintro e1 w11 ⟨v11, rfl, hn11, hb11⟩
      obtain ⟨vp11, vk11, F11, rfl, hp11, hq11, _⟩ := hn11.is
      obtain ⟨a11, c11, rfl⟩ := ints_form hp11 rfl
      obtain ⟨a12, c12, e12⟩ : ∃ a c, vk11 = .slice a F11.length c := (own_cells hq11.own (by simp)).form.elim fun a h => h.elim fun c e => ⟨a, c, by rw [List.length_map] at e; exact e⟩
      subst e12
      generalize (decD z (T ++ [UInt8.ofNat (IntKind.u8.wrap at').toNat])).ps.length = n11 at *
      obtain ⟨W11, hW11⟩ : ∃ W11, W11 = w11.alloc (.cells #[.slice a11 n11 c11, .slice a12 F11.length c12] 26) := ⟨_, rfl⟩
      have hbw11 : Below W9.heap.size W9 W11 := by rw [hW11]; exact (HBD.out.trans (hb11.mono HBD.out.size)).trans ((below_new _ _).mono (Nat.le_trans HBD.out.size hb11.size))
      have HB711 : Hid (Below W7.heap.size W7 W11) := HB79.out.trans (hbw11.mono HB79.out.size)
      have HBW11 : Hid (Below W.heap.size W W11) := HBW9.out.trans (hbw11.mono HBW9.out.size)
      obtain ⟨y0, y1⟩ := (HX7.out.here HB711.out).cells
      obtain ⟨x0, x1⟩ := (HX.out.here HBW11.out).cells
      have HSM := same_any (HKYW.out.here HB711.out) (HKI.out W11 HBW11.out)
      rw [show kd ps L7 = kd ps L by rw [kd, kd, HKY.out.2], decide_eq_true rfl] at HSM
      clear HD3 hn11 hp11 hq11 hb11 hbw11 HKYW HKY
      go_upto_region 13 with fail
      rw [← hW11]
      clear hW11
      go_wp2_with fail
      refine HSM.mono ?_
      rintro e1 w12 ⟨rfl, hb12⟩
      have HB12 : Hid (Below W.heap.size W w12) := HBW11.out.trans (hb12.mono HBW11.out.size)
      have HBY := bytes_any (HKI.out w12 HB12.out)
      rw [HNB.out] at HBY
      obtain ⟨x0', x1'⟩ := (HX.out.here HB12.out).cells
      clear HSM hb12 x0 x1 y0 y1
      go_wp2_with fail
      refine HBY.mono ?_
      rintro e1 w13 ⟨rfl, hb13⟩
      have HB13 : Hid (Below w.heap.size w w13) := HBW.out.trans ((HB12.out.trans (hb13.mono HB12.out.size)).mono HBW.out.size)
      clear HBY hb13
      go_wp2
      go_ret
      exact ⟨by first | rfl | simp, HB13.out⟩
    · have hcz : ((checkK z (kd ps L) : Int) != 0) = true := by simp; omega
      rw [if_neg hck] at HE
      have HCK := fun w' h => check_any (z := z) (HKI.out w' h)
      obtain ⟨C, hC⟩ : ∃ C, C = checkK z (kd ps L) := ⟨_, rfl⟩
      rw [← hC] at HE hcz
      have HCC : Hid (∀ w', Below W.heap.size W w' → Calls Try.prog 25 #[.int .i64 z, .agg #[.slice a1 ps.length c1, .slice a2 L.length c2]] w' fun r w'' => r = .returned (.int .i64 (C : Nat)) ∧ Below w'.heap.size w' w'') := fun w' h => by rw [hC]; exact HCK w' h
      clear hck hC HCK
      refine HE.mono ?_
      rintro e1 w6 ⟨v6, rfl, hk6, hb6⟩
      obtain ⟨a6, c6, e6⟩ := hk6.at.in.form
      subst e6
      have HB6 : Hid (Below W.heap.size W w6) := HBT.out.trans (hb6.mono HBT.out.size)
      obtain ⟨x0, x1⟩ := (HX.out.here HB6.out).cells
      have HC6 := HCC.out w6 HB6.out
      clear HE hk6 hb6 HCC
      go_wp2_with fail
      refine HC6.mono ?_
      rintro e1 w7 ⟨rfl, hb7⟩
      have HB7 : Hid (Below w.heap.size w w7) := HBW.out.trans ((HB6.out.trans (hb7.mono HB6.out.size)).mono HBW.out.size)
      clear HC6 hb7
      go_wp2
      go_ret
      exact ⟨by first | rfl | simp, HB7.out⟩
end Go.Proofs.Ytaehchijeinloaa
