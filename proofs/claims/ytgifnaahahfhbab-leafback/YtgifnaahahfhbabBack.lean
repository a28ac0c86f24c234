/- LeafBack: the walk. -/
import Derived.Test.YtgifnaahahfhbabAskArgs
namespace Go.Proofs.Ytgifnaahahfhbab
open Go.RowKit

theorem check_small {z : Int} {l : List En} (h : checkE z l = 0) : l.length ≤ 700 ∧ (∀ e ∈ l, e.k.length < 65536 ∧ e.v.length < 65536) ∧ weightE l ≤ 4294967296 := by
  obtain ⟨hz, hf, hb⟩ := checkE_ok h
  have hs := sized_le hz
  have h6 := bytesF_length [] l
  have hm := faultF_mem hf
  have hl : l.length ≤ 700 := by unfold bytesE at hb; omega
  refine ⟨hl, fun e he => by have := hm e he; omega, ?_⟩
  have h1 := weightE_le l 1024 (fun e he => by have := hm e he; omega)
  have h2 : l.length * (1 + 2 * 1024) ≤ 700 * (1 + 2 * 1024) := Nat.mul_le_mul_right _ hl
  omega
theorem enc_pre {z z' : Int} {l l' : List En} {r : Key} (h : checkE z l = 0) (h' : checkE z' l' = 0) (he : encE l = encE l' ++ r) : r = [] := by
  obtain ⟨hl, hm, _⟩ := check_small h
  obtain ⟨hl', hm', _⟩ := check_small h'
  unfold encE at he
  have hn : l.length = l'.length := by
    have h1 := num2_two (n := l.length) (by omega) (encF [] l)
    have h2 := num2_two (n := l'.length) (by omega) (encF [] l' ++ r)
    rw [he, List.append_assoc] at h1
    omega
  rw [hn, List.append_assoc] at he
  have he2 := List.append_cancel_left he
  have h1 := readF_encF [] l [] hm
  have h2 := readF_encF [] l' r hm'
  rw [List.append_nil, he2, hn, h2] at h1
  cases h1
  rfl
theorem dec_enc {z : Int} {l : List En} (h : checkE z l = 0) : decE z (encE l) = some l := (decE_iff (checkE_ok h).1).2 ⟨h, rfl⟩
theorem dec_pre {z : Int} {l : List En} (h : checkE z l = 0) {i : Nat} (hi : i < (encE l).length) : decE z ((encE l).take i) = none := by
  cases hd : decE z ((encE l).take i) with
  | none => rfl
  | some l' =>
    obtain ⟨h1, h2⟩ := (decE_iff (checkE_ok h).1).1 hd
    have he : encE l = encE l' ++ (encE l).drop i := by rw [h2, List.take_append_drop]
    have := congrArg List.length (enc_pre h h1 he)
    simp at this
    omega
theorem dec_more {z : Int} {l : List En} {r : Key} (h : checkE z l = 0) (hr : r ≠ []) : decE z (encE l ++ r) = none := by
  cases hd : decE z (encE l ++ r) with
  | none => rfl
  | some l' =>
    obtain ⟨h1, h2⟩ := (decE_iff (checkE_ok h).1).1 hd
    exact absurd (enc_pre h1 h h2) hr
theorem new0 (w : World) : NewKey w.heap.size (w.alloc (.cells #[] 5)) (.slice (some ⟨w.heap.size, 0, none⟩) 0 0) [] :=
  ⟨⟨rfl, .inr ⟨w.heap.size, 0, #[], rfl, Nat.le_refl _, heap_alloc_last w _, Nat.le_refl _, Nat.zero_le _, rfl, rfl⟩⟩, by decide⟩
/-- Decode, where the size is one. -/
theorem decode_sized {w : World} {v : Value} {b : Key} {z : Int} (hz : Sized z) (hv : KeyAt w v b) :
    Calls Try.prog 10 #[.int .i64 z, v] w fun e w' => ∃ vl F, e = .returned (.tuple #[vl, .int .i64 (if (decE z b).isSome then 0 else 55)]) ∧ NewList w.heap.size w' vl F ∧ F.map It.e = (decE z b).getD [] ∧ Below w.heap.size w w' := by
  refine (decode_any hv).mono ?_
  rintro e w' ⟨vl, F, h1, h2, h3, h4⟩
  rw [if_pos hz] at h1 h3
  exact ⟨vl, F, h1, h2, h3, h4⟩

set_option maxHeartbeats 3200000 in
set_option maxRecDepth 100000 in
theorem back_walk {w : World} {v : Value} {x : Asked} (h : v = .agg x.cells ∧ x.Ok w) :
    Calls Try.prog 3 #[v] w fun e w' => e = .returned (.bool true) ∧ Below w.heap.size w w' := by
  obtain ⟨rfl, hx⟩ := h
  obtain ⟨sz, pos, vl, L, e, r1, r2, r, vb, b, vm, more, vk, key⟩ := x
  obtain ⟨hsz, hpos, hL, _, _, _, hb, hm, _⟩ := hx
  simp only at hsz hpos hL hb hm
  have hsz2 := wf_i64 hsz
  have hpos2 := wf_i64 hpos
  have hsh := hL.short
  have hbs := hb.short
  have hms := hm.short
  obtain ⟨aL, cL, rfl⟩ := hL.form
  obtain ⟨aB, cB, rfl⟩ := hb.in.form
  obtain ⟨aM, cM, rfl⟩ := hm.in.form
  have hmc : more.length ≤ cM := by
    obtain ⟨⟨a, c, e1, _, hc, _⟩, _⟩ := hm
    cases e1; exact hc
  have HL : Hid (ListAt w.heap.size w (.slice aL L.length cL) L) := hL
  have HKB : Hid (KeyAt w (.slice aB b.length cB) b) := hb
  have HKM : Hid (KeyAt w (.slice aM more.length cM) more) := hm
  obtain ⟨W0, hW0⟩ : ∃ W0, W0 = w.alloc (.cells (Asked.cells ⟨sz, pos, .slice aL L.length cL, L, e, r1, r2, r, .slice aB b.length cB, b, .slice aM more.length cM, more, vk, key⟩) 29) := ⟨_, rfl⟩
  have HB0 : Hid (Below w.heap.size w W0) := by rw [hW0]; exact below_new _ _
  have HA0 : Hid (ABox W0 w.heap.size ⟨sz, pos, .slice aL L.length cL, L, e, r1, r2, r, .slice aB b.length cB, b, .slice aM more.length cM, more, vk, key⟩) := by rw [hW0]; exact ⟨heap_alloc_last _ _⟩
  clear hL hb hm hsz hpos
  go_enter Try.func3, Try.ntmps3
  go_wp2_with fail
  rw [← hW0]
  clear hW0
  refine (shown_any W0).mono ?_
  rintro e1 w1 ⟨rfl, hb1⟩
  have HB1 : Hid (Below w.heap.size w w1) := HB0.out.trans (hb1.mono HB0.out.size)
  have hA1 := HA0.out.here hb1
  have t0 := hA1.cell 0 (.int .i64 sz) rfl
  have t1 := hA1.cell 1 (.int .i64 pos) rfl
  have t2 := hA1.cell 2 (.slice aL L.length cL) rfl
  have t8 := hA1.cell 8 (.slice aB b.length cB) rfl
  have t9 := hA1.cell 9 (.slice aM more.length cM) rfl
  clear hb1 hA1
  have HW : Hid (∀ q, Calls Try.prog 8 #[.slice aL L.length cL] (w1.drewN q) fun e w' => (∃ s : Nat, e = .returned (.int .i64 s) ∧ s ≤ 1000000000000000 ∧ (s ≤ 2147483647 → weightE (L.map It.e) = s)) ∧ ∃ q', w' = (w1.drewN q).drewN q') := fun q => weight_any (HL.out.here (below_draws HB1.out q))
  go_wp2_with fail
  refine (sizes_any w1 sz hsz2).mono ?_
  rintro e1 w2 ⟨⟨z, hz, rfl⟩, q2, rfl⟩
  have hzz := sized_le hz
  have HZ : Hid (Sized z) := hz
  clear hz
  go_wp2_with fail
  refine (HW.out q2).mono ?_
  rintro e1 w3 ⟨⟨s, rfl, hs, hsw⟩, q3, rfl⟩
  have HSW : Hid _ := hsw
  clear hsw
  by_cases hle : s ≤ 2147483647
  · have hlz : ¬ (2147483647 : Int) < (s : Int) := by omega
    by_cases hbl : b.length ≤ 2147483647
    · have hbz : ¬ (2147483647 : Int) < (b.length : Int) := by omega
      have hwt : weightE (L.map It.e) ≤ 4294967296 := by rw [HSW.out hle]; omega
      obtain ⟨w5, hw5⟩ : ∃ w5, w5 = w1.drewN (q2 + q3) := ⟨_, rfl⟩
      have HB5 : Hid (Below w.heap.size w w5) := by rw [hw5]; exact below_draws HB1.out _
      have HE := encode_any (z := z) (HL.out.here HB5.out) hwt
      clear HW t0 t1 t2 t8 t9
      go_wp2_with fail
      rw [← hw5]
      clear hw5
      by_cases hck : checkE z (L.map It.e) = 0
      · rw [hck, if_pos rfl] at HE
        obtain ⟨hcz, hcf, hcb⟩ := checkE_ok hck
        obtain ⟨hl7, _, _⟩ := check_small hck
        have hel := encE_length (L.map It.e)
        have hcp : 0 < (encE (L.map It.e)).length := by rw [hel]; unfold bytesE; omega
        refine HE.mono ?_
        rintro e1 w6 ⟨vx, rfl, hkx, hb6⟩
        have HB6 : Hid (Below w.heap.size w w6) := HB5.out.trans (hb6.mono HB5.out.size)
        have HD1 := decode_sized (z := z) hcz hkx.at
        rw [dec_enc hck] at HD1
        have HP0 : Hid (decE z (encE (L.map It.e)) = some (L.map It.e)) := dec_enc hck
        have HP1 : Hid (∀ i, i < (encE (L.map It.e)).length → decE z ((encE (L.map It.e)).take i) = none) := fun i hi => dec_pre hck hi
        have HP2 : Hid (∀ r, r ≠ [] → decE z (encE (L.map It.e) ++ r) = none) := fun r hr => dec_more hck hr
        have hxl : (encE (L.map It.e)).length ≤ z.toNat - 32 := by rw [hel]; exact hcb
        have HLX : Hid (ListAt w5.heap.size w5 (.slice aL L.length cL) L) := HL.out.here HB5.out
        obtain ⟨T, hT⟩ : ∃ T, T = encE (L.map It.e) := ⟨_, rfl⟩
        rw [← hT] at hkx HP0 HP1 HP2 hxl hcp
        obtain ⟨ax, cx, ex⟩ := hkx.at.in.form
        subst ex
        have HKX : Hid (KeyAt w6 (.slice ax T.length cx) T) := hkx.at
        have hxc : T.length ≤ cx := by
          obtain ⟨⟨a, c, e1, _, hc, _⟩, _⟩ := hkx.at
          cases e1; exact hc
        clear HE hkx hel hT hcb hcf hcz hck
        go_wp2_with fail
        refine HD1.mono ?_
        rintro e1 w7 ⟨vy, F, rfl, hn7, hfe7, hb7⟩
        have hfe8 : F.map It.e = L.map It.e := hfe7
        have hFl : F.length = L.length := by have := congrArg List.length hfe8; simpa using this
        have hw67 := hb6.size
        have HB7 : Hid (Below w.heap.size w w7) := HB6.out.trans (hb7.mono HB6.out.size)
        have HS := same_any (hn7.list (by omega)) (HLX.out.here (hb6.trans (hb7.mono hw67)))
        rw [hfe8] at HS
        have HKX7 : Hid (KeyAt w7 (.slice ax T.length cx) T) := HKX.out.here hb7
        clear HD1 hn7 hfe7 hfe8 hb7 hb6 hFl
        go_wp2_with fail
        refine HS.mono ?_
        rintro e1 w8 ⟨rfl, q8, rfl⟩
        have hz1 : ¬ z - 32 < (T.length : Int) := by omega
        have hTn : (T.length : Int) ≤ 4096 := by omega
        go_wp2_with fail
        refine (pick_any _ pos T.length hpos2 hcp (by omega)).mono ?_
        rintro e1 w9 ⟨⟨i, hi, rfl⟩, q9, rfl⟩
        have hic : i ≤ cx := by omega
        have hic2 : (i : Int) ≤ (cx : Int) := by omega
        obtain ⟨wA, hwA⟩ : ∃ wA, wA = w7.drewN (q8 + q9) := ⟨_, rfl⟩
        have HBA : Hid (Below w.heap.size w wA) := by rw [hwA]; exact below_draws HB7.out _
        have HKA : Hid (KeyAt wA (.slice ax T.length cx) T) := by rw [hwA]; exact HKX7.out.draws _
        have HD2 := decode_sized (z := z) HZ.out ((HKA.out.in.take i (by omega) rfl).at (Nat.le_refl _))
        rw [HP1.out i hi] at HD2
        go_wp2_with fail
        rw [← hwA]
        clear hwA
        refine HD2.mono ?_
        rintro e1 wB ⟨vB, FB, rfl, hnB, hfB, hbB⟩
        have HBB : Hid (Below w.heap.size w wB) := HBA.out.trans (hbB.mono HBA.out.size)
        have HKXB : Hid (KeyAt wB (.slice ax T.length cx) T) := HKA.out.here hbB
        clear HD2 hnB hfB hbB
        obtain ⟨vMm, M5, hM5, hMl, hMe⟩ : ∃ (m : Nat) (M5 : Key), KeyAt wB (.slice aM m cM) M5 ∧ M5.length = m ∧ ((more.length ≤ 5000 ∧ m = more.length ∧ M5 = more) ∨ (5000 < more.length ∧ m = 5000 ∧ M5 ≠ [])) := by
          by_cases h5 : more.length ≤ 5000
          · exact ⟨more.length, more, HKM.out.here HBB.out, rfl, .inl ⟨h5, rfl, rfl⟩⟩
          · refine ⟨5000, more.take 5000, (((HKM.out.here HBB.out).in.take 5000 (by omega) rfl).at (Nat.le_refl _)), by rw [List.length_take]; omega, .inr ⟨by omega, rfl, ?_⟩⟩
            intro e1
            have : (more.take 5000).length = 0 := by rw [e1]; rfl
            rw [List.length_take] at this
            omega
        have HKM5 : Hid (KeyAt wB (.slice aM vMm cM) M5) := hM5
        have HML : Hid (M5.length = vMm) := hMl
        have hmm5 : vMm ≤ 5000 := by rcases hMe with ⟨h1, h2, _⟩ | ⟨_, h2, _⟩ <;> omega
        clear hM5 hMl
        rcases hMe with ⟨h5, hm5, hM5e⟩ | ⟨h5, hm5, hM5n⟩
        · subst hm5
          have h5z : ¬ (5000 : Int) < (more.length : Int) := by omega
          go_wp2_with (first
            | (at_builtin; refine wpList_append_key rfl _ _ rfl wB.heap.size (.slice (some ⟨wB.heap.size, 0, none⟩) 0 0) (.slice ax T.length cx) [] T rfl (new0 wB) rfl (HKXB.out.here (below_new _ _)) (by simp; omega) (by simp) ?_
               intro vC wC hvC hkC
               have HVC : Hid (NewKey wB.heap.size wC vC T) := hvC
               have HBC : Hid (Below wB.heap.size wB wC) := (below_new _ _).trans hkC.low
               clear hvC hkC)
            | (at_builtin; refine wpList_append_key rfl _ _ rfl wB.heap.size vC (.slice aM more.length cM) T M5 rfl HVC.out rfl (HKM5.out.here HBC.out) (by rw [HML.out]; omega) HBC.out.size ?_
               intro vD wD hvD hkD
               have HVD : Hid (NewKey wB.heap.size wD vD (T ++ M5)) := hvD
               have HBD0 : Hid (Below wB.heap.size wB wD) := HBC.out.trans hkD.low
               clear hvD hkD))
          refine (decode_sized (z := z) HZ.out HVD.out.at).mono ?_
          rintro e1 wT0 ⟨vE, FE, rfl, hnE, hfE, hbE⟩
          obtain ⟨wT, hwT⟩ : ∃ wT, wT = wT0 := ⟨_, rfl⟩
          rw [← hwT]
          have HBT : Hid (Below w.heap.size w wT) := by rw [hwT]; exact (HBB.out.trans (HBD0.out.mono HBB.out.size)).trans (hbE.mono (Nat.le_trans HBB.out.size HBD0.out.size))
          clear hwT hnE hfE hbE
          by_cases hm0 : more = []
          · have hmz : ¬ (0 : Int) < (more.length : Int) := by rw [hm0]; simp
            have hmz2 : ¬ 0 < more.length := by rw [hm0]; simp
            rw [show T ++ M5 = T by rw [hM5e, hm0, List.append_nil], HP0.out]
            clear hm0 hM5e
            go_wp2_with fail
            have HD := decode_sized HZ.out (HKB.out.here HBT.out)
            refine HD.mono ?_
            rintro e1 wd ⟨vy, F, rfl, hn, hfe, hbd⟩
            have HBD : Hid (Below w.heap.size w wd) := HBT.out.trans (hbd.mono HBT.out.size)
            have HNL : Hid (NewList wT.heap.size wd vy F) := hn
            cases hde : decE z b with
            | none =>
              rw [hde] at hfe
              have hF : F = [] := by simpa using hfe
              subst hF
              obtain ⟨ay, cy, ey⟩ := (hn.list (by simp)).form
              subst ey
              clear HD hn hfe hbd hde
              go_wp2
              go_ret
              exact ⟨rfl, HBD.out⟩
            | some l' =>
              rw [hde] at hfe
              have hfe2 : F.map It.e = l' := hfe
              obtain ⟨hck, heb⟩ := (decE_iff HZ.out).1 hde
              obtain ⟨hl7, _, hw7⟩ := check_small hck
              have hFl : F.length ≤ 700 := by rw [← List.length_map (f := It.e), hfe2]; exact hl7
              have HE := encode_any (z := z) (hn.list (by omega)) (by rw [hfe2]; exact hw7)
              rw [hfe2, hck, if_pos rfl, heb] at HE
              clear HD hn hfe hfe2 hbd hde hck heb hw7
              go_wp2_with fail
              refine HE.mono ?_
              rintro e1 we ⟨vz, rfl, hkz, hbe⟩
              have e3 := conv_key hkz.at
              have e4 := conv_key (HKB.out.here (HBD.out.trans (hbe.mono HBD.out.size)))
              have s1 := strB_eq b b
              rw [decide_eq_true rfl] at s1
              have HBE : Hid (Below w.heap.size w we) := HBD.out.trans (hbe.mono HBD.out.size)
              generalize strB b = S at *
              clear HE hkz hbe
              go_wp2
              go_ret
              exact ⟨by simp, HBE.out⟩
          · have hmz : (0 : Int) < (more.length : Int) := by
              cases more with
              | nil => exact absurd rfl hm0
              | cons a t => simp <;> omega
            have hmz2 : 0 < more.length := by omega
            rw [HP2.out M5 (by rw [hM5e]; exact hm0)]
            go_wp2_with fail
            have HD := decode_sized HZ.out (HKB.out.here HBT.out)
            refine HD.mono ?_
            rintro e1 wd ⟨vy, F, rfl, hn, hfe, hbd⟩
            have HBD : Hid (Below w.heap.size w wd) := HBT.out.trans (hbd.mono HBT.out.size)
            have HNL : Hid (NewList wT.heap.size wd vy F) := hn
            cases hde : decE z b with
            | none =>
              rw [hde] at hfe
              have hF : F = [] := by simpa using hfe
              subst hF
              obtain ⟨ay, cy, ey⟩ := (hn.list (by simp)).form
              subst ey
              clear HD hn hfe hbd hde
              go_wp2
              go_ret
              exact ⟨rfl, HBD.out⟩
            | some l' =>
              rw [hde] at hfe
              have hfe2 : F.map It.e = l' := hfe
              obtain ⟨hck, heb⟩ := (decE_iff HZ.out).1 hde
              obtain ⟨hl7, _, hw7⟩ := check_small hck
              have hFl : F.length ≤ 700 := by rw [← List.length_map (f := It.e), hfe2]; exact hl7
              have HE := encode_any (z := z) (hn.list (by omega)) (by rw [hfe2]; exact hw7)
              rw [hfe2, hck, if_pos rfl, heb] at HE
              clear HD hn hfe hfe2 hbd hde hck heb hw7
              go_wp2_with fail
              refine HE.mono ?_
              rintro e1 we ⟨vz, rfl, hkz, hbe⟩
              have e3 := conv_key hkz.at
              have e4 := conv_key (HKB.out.here (HBD.out.trans (hbe.mono HBD.out.size)))
              have s1 := strB_eq b b
              rw [decide_eq_true rfl] at s1
              have HBE : Hid (Below w.heap.size w we) := HBD.out.trans (hbe.mono HBD.out.size)
              generalize strB b = S at *
              clear HE hkz hbe
              go_wp2
              go_ret
              exact ⟨by simp, HBE.out⟩
        · subst hm5
          have h5z : (5000 : Int) < (more.length : Int) := by omega
          have h5c : 5000 ≤ cM := by omega
          have h5c2 : (5000 : Int) ≤ (cM : Int) := by omega
          go_wp2_with (first
            | (at_builtin; refine wpList_append_key rfl _ _ rfl wB.heap.size (.slice (some ⟨wB.heap.size, 0, none⟩) 0 0) (.slice ax T.length cx) [] T rfl (new0 wB) rfl (HKXB.out.here (below_new _ _)) (by simp; omega) (by simp) ?_
               intro vC wC hvC hkC
               have HVC : Hid (NewKey wB.heap.size wC vC T) := hvC
               have HBC : Hid (Below wB.heap.size wB wC) := (below_new _ _).trans hkC.low
               clear hvC hkC)
            | (at_builtin; refine wpList_append_key rfl _ _ rfl wB.heap.size vC (.slice aM 5000 cM) T M5 rfl HVC.out rfl (HKM5.out.here HBC.out) (by rw [HML.out]; omega) HBC.out.size ?_
               intro vD wD hvD hkD
               have HVD : Hid (NewKey wB.heap.size wD vD (T ++ M5)) := hvD
               have HBD0 : Hid (Below wB.heap.size wB wD) := HBC.out.trans hkD.low
               clear hvD hkD))
          refine (decode_sized (z := z) HZ.out HVD.out.at).mono ?_
          rintro e1 wT0 ⟨vE, FE, rfl, hnE, hfE, hbE⟩
          obtain ⟨wT, hwT⟩ : ∃ wT, wT = wT0 := ⟨_, rfl⟩
          rw [← hwT]
          have HBT : Hid (Below w.heap.size w wT) := by rw [hwT]; exact (HBB.out.trans (HBD0.out.mono HBB.out.size)).trans (hbE.mono (Nat.le_trans HBB.out.size HBD0.out.size))
          clear hwT hnE hfE hbE
          rw [HP2.out M5 hM5n]
          go_wp2_with fail
          have HD := decode_sized HZ.out (HKB.out.here HBT.out)
          refine HD.mono ?_
          rintro e1 wd ⟨vy, F, rfl, hn, hfe, hbd⟩
          have HBD : Hid (Below w.heap.size w wd) := HBT.out.trans (hbd.mono HBT.out.size)
          have HNL : Hid (NewList wT.heap.size wd vy F) := hn
          cases hde : decE z b with
          | none =>
            rw [hde] at hfe
            have hF : F = [] := by simpa using hfe
            subst hF
            obtain ⟨ay, cy, ey⟩ := (hn.list (by simp)).form
            subst ey
            clear HD hn hfe hbd hde
            go_wp2
            go_ret
            exact ⟨rfl, HBD.out⟩
          | some l' =>
            rw [hde] at hfe
            have hfe2 : F.map It.e = l' := hfe
            obtain ⟨hck, heb⟩ := (decE_iff HZ.out).1 hde
            obtain ⟨hl7, _, hw7⟩ := check_small hck
            have hFl : F.length ≤ 700 := by rw [← List.length_map (f := It.e), hfe2]; exact hl7
            have HE := encode_any (z := z) (hn.list (by omega)) (by rw [hfe2]; exact hw7)
            rw [hfe2, hck, if_pos rfl, heb] at HE
            clear HD hn hfe hfe2 hbd hde hck heb hw7
            go_wp2_with fail
            refine HE.mono ?_
            rintro e1 we ⟨vz, rfl, hkz, hbe⟩
            have e3 := conv_key hkz.at
            have e4 := conv_key (HKB.out.here (HBD.out.trans (hbe.mono HBD.out.size)))
            have s1 := strB_eq b b
            rw [decide_eq_true rfl] at s1
            have HBE : Hid (Below w.heap.size w we) := HBD.out.trans (hbe.mono HBD.out.size)
            generalize strB b = S at *
            clear HE hkz hbe
            go_wp2
            go_ret
            exact ⟨by simp, HBE.out⟩
      · have hcz : ((checkE z (L.map It.e) : Int) == 0) = false := by rw [beq_eq_false_iff_ne]; omega
        rw [if_neg hck] at HE
        refine HE.mono ?_
        rintro e1 w6 ⟨vx, rfl, hkx, hb6⟩
        have HB6 : Hid (Below w.heap.size w w6) := HB5.out.trans (hb6.mono HB5.out.size)
        clear HE hkx hb6
        go_wp2_with fail
        obtain ⟨wT, hwT⟩ : ∃ wT, wT = w6 := ⟨_, rfl⟩
        rw [← hwT]
        have HBT : Hid (Below w.heap.size w wT) := by rw [hwT]; exact HB6.out
        clear hwT
        have HD := decode_sized HZ.out (HKB.out.here HBT.out)
        refine HD.mono ?_
        rintro e1 wd ⟨vy, F, rfl, hn, hfe, hbd⟩
        have HBD : Hid (Below w.heap.size w wd) := HBT.out.trans (hbd.mono HBT.out.size)
        have HNL : Hid (NewList wT.heap.size wd vy F) := hn
        cases hde : decE z b with
        | none =>
          rw [hde] at hfe
          have hF : F = [] := by simpa using hfe
          subst hF
          obtain ⟨ay, cy, ey⟩ := (hn.list (by simp)).form
          subst ey
          clear HD hn hfe hbd hde
          go_wp2
          go_ret
          exact ⟨rfl, HBD.out⟩
        | some l' =>
          rw [hde] at hfe
          have hfe2 : F.map It.e = l' := hfe
          obtain ⟨hck, heb⟩ := (decE_iff HZ.out).1 hde
          obtain ⟨hl7, _, hw7⟩ := check_small hck
          have hFl : F.length ≤ 700 := by rw [← List.length_map (f := It.e), hfe2]; exact hl7
          have HE := encode_any (z := z) (hn.list (by omega)) (by rw [hfe2]; exact hw7)
          rw [hfe2, hck, if_pos rfl, heb] at HE
          clear HD hn hfe hfe2 hbd hde hck heb hw7
          go_wp2_with fail
          refine HE.mono ?_
          rintro e1 we ⟨vz, rfl, hkz, hbe⟩
          have e3 := conv_key hkz.at
          have e4 := conv_key (HKB.out.here (HBD.out.trans (hbe.mono HBD.out.size)))
          have s1 := strB_eq b b
          rw [decide_eq_true rfl] at s1
          have HBE : Hid (Below w.heap.size w we) := HBD.out.trans (hbe.mono HBD.out.size)
          generalize strB b = S at *
          clear HE hkz hbe
          go_wp2
          go_ret
          exact ⟨by simp, HBE.out⟩
    · have hbz : (2147483647 : Int) < (b.length : Int) := by omega
      go_wp2
      go_ret
      exact ⟨rfl, below_draws HB1.out _⟩
  · have hlz : (2147483647 : Int) < (s : Int) := by omega
    go_wp2
    go_ret
    exact ⟨rfl, below_draws HB1.out _⟩
end Go.Proofs.Ytgifnaahahfhbab
