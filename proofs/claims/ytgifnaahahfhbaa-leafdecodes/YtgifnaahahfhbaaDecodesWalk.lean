/- LeafDecodes: the walk. -/
import Derived.Test.YtgifnaahahfhbaaDecX
import Derived.Test.YtgifnaahahfhbaaLend
import Derived.Test.YtgifnaahahfhbaaLend2
import Derived.Test.YtgifnaahahfhbaaShown
import Derived.Test.YtgifnaahahfhbaaStays
import Derived.BigQuiet
import Derived.BigRegion
namespace Go.Proofs.Ytgifnaahahfhbaa
open Go.RowKit

theorem xor51 (c : UInt8) : bits BinOp.xor IntKind.u8 (c.toNat : Int) 51 = ((c ^^^ 51).toNat : Int) := by
  have h : ∀ n : Fin 256, bits BinOp.xor IntKind.u8 (n.val : Int) 51 = (((UInt8.ofNat n.val) ^^^ 51).toNat : Int) := by decide +kernel
  have := h ⟨c.toNat, c.toNat_lt⟩
  simpa using this

set_option maxHeartbeats 3200000 in
set_option maxRecDepth 100000 in
theorem decodes_walk {w : World} {v u : Value} {b d : Key} (z : Int) (h : KeyAt w v b) (hu : KeyAt w u d) :
    Calls Try.prog 5 #[.int .i64 z, v, u] w fun e w' => e = .returned (.bool true) ∧ Below w.heap.size w w' := by
  have hbs := h.short
  have hds := hu.short
  obtain ⟨a1, c1, rfl⟩ := h.in.form
  obtain ⟨a2, c2, rfl⟩ := hu.in.form
  have HA : Hid (∀ W', Below w.heap.size w W' → KeyAt W' (.slice a1 b.length c1) b) := fun W' hb => h.here hb
  have HB : Hid (∀ W', Below w.heap.size w W' → KeyAt W' (.slice a2 d.length c2) d) := fun W' hb => hu.here hb
  clear h hu
  go_enter Try.func5, Try.ntmps5
  go_wp2_with fail
  refine (shown_any w).mono ?_
  rintro e wA ⟨rfl, hb⟩
  have HWA : Hid (Below w.heap.size w wA) := hb
  clear hb
  have nw : IntKind.i64.wrap (2147483647 - (b.length : Int)) = 2147483647 - (b.length : Int) := by simp [IntKind.wrap, IntKind.bits, IntKind.signed]; omega
  by_cases h1 : (2147483647 : Int) < (b.length : Int)
  · go_wp2_with fail
    go_ret
    exact ⟨rfl, HWA.out⟩
  by_cases h2 : 2147483647 - (b.length : Int) < (d.length : Int)
  · go_wp2_with fail
    go_ret
    exact ⟨rfl, HWA.out⟩
  obtain ⟨bk, hbk⟩ : ∃ bk, bk = wA.heap.size := ⟨_, rfl⟩
  obtain ⟨wB, hwB⟩ : ∃ wB, wB = wA.alloc (.cells #[.slice none 0 0, .slice none 0 0, .slice none 0 0] 31) := ⟨_, rfl⟩
  have HBB : Hid (Below bk wA wB) := by rw [hwB, hbk]; exact below_new _ _
  have HBK : Hid (wB.heap[bk]? = some (.cells #[.slice none 0 0, .slice none 0 0, .slice none 0 0] 31 (0, 0))) := by rw [hwB, hbk]; exact heap_alloc_last _ _
  have HWB : Hid (w.heap.size ≤ bk) := by rw [hbk]; exact HWA.out.size
  have hbl : bk < wB.heap.size := (Array.getElem?_eq_some_iff.1 HBK.out).1
  have HBW : Hid (Below w.heap.size w wB) := HWA.out.trans (HBB.out.mono HWB.out)
  have HMK := marked_any (HA.out wB HBW.out) (by omega)
  go_wp2_with fail
  rw [← hwB, ← hbk]
  clear hwB hbk
  refine HMK.mono ?_
  rintro e w4 ⟨vc, rfl, hvc, hb4⟩
  clear HMK
  have hl2 : (b ++ ends2).length = b.length + 2 := by simp [ends2]
  have HKR : Hid (KRow wB.heap.size w4.heap.size w4 vc (b.length + 2)) := by rw [Hid, ← hl2]; exact KRow.of hvc (by omega)
  obtain ⟨gc, cc, rfl⟩ := HKR.out.form
  have HVC : Hid (NewKey wB.heap.size w4 (.slice (some ⟨gc, 0, none⟩) (b.length + 2) cc) (b ++ ends2)) := hvc
  have hcc : b.length + 2 ≤ cc := by
    obtain ⟨⟨g, c, cur, ks, e, _, _, _, h4, _⟩, _⟩ := HKR.out
    cases e; exact h4
  have HB4 : Hid (Below wB.heap.size wB w4) := hb4
  have HW4 : Hid (Below w.heap.size w w4) := HBW.out.trans (hb4.mono HBW.out.size)
  have HFR : Hid (∀ W', Below w4.heap.size w4 W' → KeyAt W' (.slice (some ⟨gc, 0, none⟩) b.length cc) b) := fun W' hb => by
    have h := HVC.out.at
    obtain ⟨⟨a', c', e, hby, hc', h0⟩, hs⟩ := h
    simp only [Value.slice.injEq] at e
    obtain ⟨rfl, _, rfl⟩ := e
    refine KeyAt.here ⟨⟨_, cc, rfl, fun j x hj => hby j x ?_, by omega, h0⟩, hbs⟩ hb
    rw [List.getElem?_append_left (List.getElem?_eq_some_iff.1 hj).1]; exact hj
  have hs4 : wB.heap.size ≤ w4.heap.size := hb4.size
  clear hvc hb4
  obtain ⟨n1, hn1⟩ : ∃ n, n = errZ z b := ⟨_, rfl⟩
  obtain ⟨l1, hl1⟩ : ∃ l, l = ansE z b := ⟨_, rfl⟩
  obtain ⟨n2, hn2⟩ : ∃ n, n = errZ z d := ⟨_, rfl⟩
  obtain ⟨l2, hl2'⟩ : ∃ l, l = ansE z d := ⟨_, rfl⟩
  have HD1 : Hid (∀ W', Below w4.heap.size w4 W' → Calls Try.prog 18 #[.int .i64 z, .slice (some ⟨gc, 0, none⟩) b.length cc] W' fun e w' => ∃ vl F, e = .returned (.tuple #[vl, .int .i64 n1]) ∧ Dl W'.heap.size w'.heap.size w' vl F ∧ F.map It.e = l1 ∧ Below W'.heap.size W' w') := fun W' hb => by
    rw [hn1, hl1]; exact decode_dl (HFR.out W' hb)
  have HD2 : Hid (∀ W', Below w.heap.size w W' → Calls Try.prog 18 #[.int .i64 z, .slice a2 d.length c2] W' fun e w' => ∃ vl F, e = .returned (.tuple #[vl, .int .i64 n2]) ∧ Dl W'.heap.size w'.heap.size w' vl F ∧ F.map It.e = l2 ∧ Below W'.heap.size W' w') := fun W' hb => by
    rw [hn2, hl2']; exact decode_dl (HB.out W' hb)
  have HR1 : Hid (∀ W', Below w.heap.size w W' → Calls Try.prog 19 #[.int .i64 z, .slice a1 b.length c1] W' fun e w' => ∃ vl F, e = .returned (.tuple #[vl, .int .i64 n1]) ∧ OutList W'.heap.size w' vl F ∧ F.length ≤ 1024 ∧ F.map It.e = l1 ∧ Below W'.heap.size W' w') := fun W' hb => by
    rw [hn1, hl1]; exact refDecode_ol (HA.out W' hb)
  have HR2 : Hid (∀ W', Below w.heap.size w W' → Calls Try.prog 19 #[.int .i64 z, .slice a2 d.length c2] W' fun e w' => ∃ vl F, e = .returned (.tuple #[vl, .int .i64 n2]) ∧ OutList W'.heap.size w' vl F ∧ F.length ≤ 1024 ∧ F.map It.e = l2 ∧ Below W'.heap.size W' w') := fun W' hb => by
    rw [hn2, hl2']; exact refDecode_ol (HB.out W' hb)
  clear hn1 hl1 hn2 hl2'
  go_wp2_with fail
  refine (HD1.out w4 (Below.refl _ _)).mono ?_
  rintro e w5 ⟨vx, Fx, rfl, hx, hxe, hb5⟩
  have HX : Hid (Dl w4.heap.size w5.heap.size w5 vx Fx) := hx
  have HXE : Hid (Fx.map It.e = l1) := hxe
  have H5 : Hid (Below w4.heap.size w4 w5) := hb5
  clear hx hxe hb5
  go_wp2_with fail
  refine (HD1.out w5 H5.out).mono ?_
  rintro e w6 ⟨vy, Fy, rfl, hx, hxe, hb6⟩
  have HY : Hid (Dl w5.heap.size w6.heap.size w6 vy Fy) := hx
  have HYE : Hid (Fy.map It.e = l1) := hxe
  have H56 : Hid (Below w5.heap.size w5 w6) := hb6
  have H6 : Hid (Below w4.heap.size w4 w6) := H5.out.trans (hb6.mono H5.out.size)
  clear hx hxe hb6
  go_wp2_with fail
  refine (HD2.out w6 (HW4.out.trans (H6.out.mono HW4.out.size))).mono ?_
  rintro e w7 ⟨vo, Fo, rfl, hx, hxe, hb7⟩
  have HO : Hid (Dl w6.heap.size w7.heap.size w7 vo Fo) := hx
  have HOE : Hid (Fo.map It.e = l2) := hxe
  have H67 : Hid (Below w6.heap.size w6 w7) := hb7
  have H7 : Hid (Below w4.heap.size w4 w7) := H6.out.trans (hb7.mono H6.out.size)
  clear hx hxe hb7
  go_wp2_with fail
  refine (HD1.out w7 H7.out).mono ?_
  rintro e w8 ⟨vz, Fz, rfl, hx, hxe, hb8⟩
  have HZ : Hid (Dl w7.heap.size w8.heap.size w8 vz Fz) := hx
  have HZE : Hid (Fz.map It.e = l1) := hxe
  have H78 : Hid (Below w7.heap.size w7 w8) := hb8
  have H8 : Hid (Below w4.heap.size w4 w8) := H7.out.trans (hb8.mono H7.out.size)
  clear hx hxe hb8
  go_wp2_with fail
  refine (HR1.out w8 (HW4.out.trans (H8.out.mono HW4.out.size))).mono ?_
  rintro e w9 ⟨vr, Fr, rfl, hx, hxl, hxe, hb9⟩
  have HR : Hid (OutList w8.heap.size w9 vr Fr) := hx
  have HRE : Hid (Fr.map It.e = l1) := hxe
  have HRL : Hid (Fr.length ≤ 1024) := hxl
  have H89 : Hid (Below w8.heap.size w8 w9) := hb9
  have H9 : Hid (Below w4.heap.size w4 w9) := H8.out.trans (hb9.mono H8.out.size)
  clear hx hxe hxl hb9
  go_wp2_with fail
  refine (HR2.out w9 (HW4.out.trans (H9.out.mono HW4.out.size))).mono ?_
  rintro e w10 ⟨vs, Fs, rfl, hx, hxl, hxe, hb10⟩
  have HS : Hid (OutList w9.heap.size w10 vs Fs) := hx
  have HSE : Hid (Fs.map It.e = l2) := hxe
  have HSL : Hid (Fs.length ≤ 1024) := hxl
  have H90 : Hid (Below w9.heap.size w9 w10) := hb10
  have H10 : Hid (Below w4.heap.size w4 w10) := H9.out.trans (hb10.mono H9.out.size)
  clear hx hxe hxl hb10
  -- all at w10
  have HX10 : Hid (Dl w4.heap.size w5.heap.size w10 vx Fx) := ((((HX.out.here H56.out).here H67.out).here H78.out).here H89.out).here H90.out
  have HY10 : Hid (Dl w5.heap.size w6.heap.size w10 vy Fy) := (((HY.out.here H67.out).here H78.out).here H89.out).here H90.out
  have HO10 : Hid (Dl w6.heap.size w7.heap.size w10 vo Fo) := ((HO.out.here H78.out).here H89.out).here H90.out
  have HZ10 : Hid (Dl w7.heap.size w8.heap.size w10 vz Fz) := (HZ.out.here H89.out).here H90.out
  have HRA : Hid (∀ W, Below w10.heap.size w10 W → ListAt W.heap.size W vr Fr) := fun W hW => (((HR.out.here H90.out).here hW)).list (by have := HRL.out; omega)
  have HSA : Hid (∀ W, Below w10.heap.size w10 W → ListAt W.heap.size W vs Fs) := fun W hW => (HS.out.here hW).list (by have := HSL.out; omega)
  have HSZ : Hid (w4.heap.size ≤ w5.heap.size ∧ w5.heap.size ≤ w6.heap.size ∧ w6.heap.size ≤ w7.heap.size ∧ w7.heap.size ≤ w8.heap.size ∧ w8.heap.size ≤ w10.heap.size) := ⟨H5.out.size, H56.out.size, H67.out.size, H78.out.size, Nat.le_trans H89.out.size H90.out.size⟩
  clear HX HY HO HZ HR HS H56 H67 H78 H89 H90 H6 H7 H8 H9 HRL HSL HD2 HR1 HR2
  go_wp2_with fail
  refine (same_true HX10.out.listAt (HRA.out w10 (Below.refl _ _)) (by rw [HXE.out, HRE.out])).mono ?_
  rintro e w11 ⟨rfl, hb11⟩
  have H11 : Hid (Below w10.heap.size w10 w11) := hb11
  clear hb11
  go_wp2_with fail
  refine (same_true (HY10.out.here H11.out).listAt (HRA.out w11 H11.out) (by rw [HYE.out, HRE.out])).mono ?_
  rintro e w12 ⟨rfl, hb12⟩
  have H12 : Hid (Below w10.heap.size w10 w12) := H11.out.trans (hb12.mono H11.out.size)
  clear hb12 H11
  go_wp2_with fail
  refine (same_true (HO10.out.here H12.out).listAt (HSA.out w12 H12.out) (by rw [HOE.out, HSE.out])).mono ?_
  rintro e w13 ⟨rfl, hb13⟩
  have H13 : Hid (Below w10.heap.size w10 w13) := H12.out.trans (hb13.mono H12.out.size)
  clear hb13 H12
  go_wp2_with fail
  refine (same_true (HZ10.out.here H13.out).listAt (HRA.out w13 H13.out) (by rw [HZE.out, HRE.out])).mono ?_
  rintro e w14 ⟨rfl, hb14⟩
  have H14 : Hid (Below w10.heap.size w10 w14) := H13.out.trans (hb14.mono H13.out.size)
  clear hb14 H13
  have HV14 : Hid (NewKey wB.heap.size w14 (.slice (some ⟨gc, 0, none⟩) (b.length + 2) cc) (b ++ ends2)) := (HVC.out.here H10.out).here H14.out
  have HW14 : Hid (Below w.heap.size w w14) := (HW4.out.trans (H10.out.mono HW4.out.size)).trans (H14.out.mono (Nat.le_trans HW4.out.size H10.out.size))
  have t1 : Sem.run Try.prog (convert 39 9 (.slice (some ⟨gc, 0, none⟩) (b.length + 2) cc)) w14 = .ok (.string (strB (b ++ ends2))) w14 := conv_key HV14.out.at
  have t2 : Sem.run Try.prog (convert 39 9 (.slice a1 b.length c1)) w14 = .ok (.string (strB b)) w14 := conv_key (HA.out w14 HW14.out)
  have s1 := strB_two b
  have z1 := strB_size b
  have b1 : ¬ (9223372036854775807 : Int) < (b.length : Int) + 2 := by omega
  have b3 : ¬ 9223372036854775807 < b.length + 2 := by omega
  generalize strB (b ++ ends2) = S1 at t1 s1
  generalize strB b = S3 at t2 s1 z1
  have d2 : ByteArray.size ⟨#[167, 168]⟩ = 2 := rfl
  go_wp2_with fail
  clear t1 t2 s1 z1 d2 b1 b3
  have HKR14 : Hid (KRow wB.heap.size w4.heap.size w14 (.slice (some ⟨gc, 0, none⟩) (b.length + 2) cc) (b.length + 2)) := (HKR.out.here H10.out).here (H14.out.mono H10.out.size)
  have hbb : b.length ≤ 2147483647 := by omega
  go_loopw [27] (fun i wx => ∃ t : Nat, t ≤ b.length ∧ i = .int .i64 t ∧ KRow wB.heap.size w4.heap.size wx (.slice (some ⟨gc, 0, none⟩) (b.length + 2) cc) (b.length + 2) ∧ Over wB.heap.size w4.heap.size w14 wx) (fun i _ => b.length - (intOf i).toNat)
  case atStart => exact ⟨0, Nat.zero_le _, rfl, HKR14.out, Over.refl _ _ _⟩
  case round =>
    obtain ⟨t, ht, rfl, hkr, hov⟩ := hrel
    have HK : Hid (KRow wB.heap.size w4.heap.size wr (.slice (some ⟨gc, 0, none⟩) (b.length + 2) cc) (b.length + 2)) := hkr
    have HOV : Hid (Over wB.heap.size w4.heap.size w14 wr) := hov
    clear hkr hov
    by_cases hlt : t < b.length
    · have hz2 : (t : Int) < (b.length : Int) := by omega
      have hz3 : (t : Int) < (b.length : Int) + 2 := by omega
      have hz4 : (t : Int) < ((b.length + 2 : Nat) : Int) := by omega
      obtain ⟨g, c, x, ev, hc, c0, f0, hput⟩ := HK.out.cell t (by omega)
      cases ev
      have HST : Hid (KRow wB.heap.size w4.heap.size (wr.setCell ⟨gc, t, none⟩ (encB (x ^^^ 51))) (.slice (some ⟨gc, 0, none⟩) (b.length + 2) cc) (b.length + 2) ∧ Over wB.heap.size w4.heap.size w14 (wr.setCell ⟨gc, t, none⟩ (encB (x ^^^ 51)))) := ⟨HK.out.put _ _ _, HOV.out.trans (hput (x ^^^ 51))⟩
      have hx51 := xor51 x
      clear hput
      go_wp2_with fail
      have e51 : (x.toNat ^^^ 51) = (x ^^^ 51).toNat := by rw [UInt8.toNat_xor]; rfl
      rw [e51]
      exact ⟨⟨t + 1, by omega, by go_num, HST.out.1, HST.out.2⟩, by simp [intOf]; omega⟩
    · have hz2 : ¬ (t : Int) < (b.length : Int) := by omega
      obtain ⟨b', hb', hin⟩ := HK.out.in
      have HIN : Hid (∀ W', Ty w4.heap.size wr W' → KeyAt W' (.slice (some ⟨gc, 0, none⟩) b.length cc) b') := fun W' hT => by
        have h1 := hin W' hT
        have e : less2 (.slice (some ⟨gc, 0, none⟩) (b.length + 2) cc) = .slice (some ⟨gc, 0, none⟩) b.length cc := rfl
        rw [e] at h1
        exact h1.at (Nat.le_trans (by have := H10.out.size; have := H14.out.size; have := HOV.out.keep.low.size; omega) hT.size)
      clear hin
      have HX15 : Hid (Dl w4.heap.size w5.heap.size wr vx Fx) := (HX10.out.here H14.out).over HOV.out (Nat.le_refl _)
      have HY15 : Hid (Dl w5.heap.size w6.heap.size wr vy Fy) := (HY10.out.here H14.out).over HOV.out HSZ.out.1
      have HO15 : Hid (Dl w6.heap.size w7.heap.size wr vo Fo) := (HO10.out.here H14.out).over HOV.out (by have := HSZ.out; omega)
      have HZ15 : Hid (Dl w7.heap.size w8.heap.size wr vz Fz) := (HZ10.out.here H14.out).over HOV.out (by have := HSZ.out; omega)
      have HSZ2 : Hid (w10.heap.size ≤ wr.heap.size) := Nat.le_trans H14.out.size HOV.out.keep.low.size
      have HBK2 : Hid (wr.heap[bk]? = some (.cells #[.slice none 0 0, .slice none 0 0, .slice none 0 0] 31 (0, 0))) := by
        have e1 := HBK.out
        rw [← (HB4.out.block bk hbl), ← H10.out.block bk (by omega), ← H14.out.block bk (by have := H10.out.size; omega)] at e1
        exact HOV.out.keep.typ _ _ _ _ (by decide) e1
      have HWR : Hid (Below bk wB wr) := (((HB4.out.mono (Nat.le_of_lt hbl)).trans (H10.out.mono (by omega))).trans (H14.out.mono (by have := H10.out.size; omega))).trans (HOV.out.keep.low.mono (Nat.le_of_lt hbl))
      clear HX10 HY10 HO10 HZ10 HRA HSA HOV HK HKR14 HV14
      obtain ⟨n3, hn3⟩ : ∃ n, n = errZ z b' := ⟨_, rfl⟩
      obtain ⟨l3, hl3⟩ : ∃ l, l = ansE z b' := ⟨_, rfl⟩
      have HD3 : Hid (Calls Try.prog 18 #[.int .i64 z, .slice (some ⟨gc, 0, none⟩) b.length cc] wr fun e w' => ∃ vl F, e = .returned (.tuple #[vl, .int .i64 n3]) ∧ Dl wr.heap.size w'.heap.size w' vl F ∧ F.map It.e = l3 ∧ Below wr.heap.size wr w') := by
        rw [hn3, hl3]; exact decode_dl (HIN.out wr (Ty.refl _ _))
      go_wp2_with fail
      refine HD3.out.mono ?_
      rintro e w16 ⟨vw, Fw, rfl, hx, hxe, hb16⟩
      have HW : Hid (Dl wr.heap.size w16.heap.size w16 vw Fw) := hx
      have HWE : Hid (Fw.map It.e = l3) := hxe
      have H16 : Hid (Below wr.heap.size wr w16) := hb16
      clear hx hxe hb16 HD3
      have HR3 : Hid (∀ W' v, KeyAt W' v b' → Calls Try.prog 19 #[.int .i64 z, v] W' fun e w' => ∃ vl F, e = .returned (.tuple #[vl, .int .i64 n3]) ∧ OutList W'.heap.size w' vl F ∧ F.length ≤ 1024 ∧ F.map It.e = l3 ∧ Below W'.heap.size W' w') := fun W' v hv => by
        rw [hn3, hl3]; exact refDecode_ol hv
      have hbs' : b'.length ≤ 2147483647 := by omega
      clear hn3 hl3
      go_wp2_with (first
        | (at_builtin; refine wpList_append_key rfl _ _ rfl w16.heap.size (.slice (some ⟨w16.heap.size, 0, none⟩) 0 0) _ [] b' rfl (newEmpty w16) rfl (HIN.out _ (Ty.of (H16.out.trans ((below_new w16 _).mono H16.out.size)))) (by simp; omega) (by simp) ?_
           intro v17 w17 hv17 hk17
           have HV17 : Hid (NewKey w16.heap.size w17 v17 b') := hv17
           have H17 : Hid (Below w16.heap.size w16 w17) := (below_new w16 _).trans (hk17.low.mono (by simp))
           clear hv17 hk17))
      refine (HR3.out w17 v17 HV17.out.at).mono ?_
      rintro e w18 ⟨vt, Ft, rfl, hx, hxl, hxe, hb18⟩
      have HT : Hid (OutList w17.heap.size w18 vt Ft) := hx
      have HTE : Hid (Ft.map It.e = l3) := hxe
      have HTL : Hid (Ft.length ≤ 1024) := hxl
      have H18 : Hid (Below w17.heap.size w17 w18) := hb18
      have HW18 : Hid (Dl wr.heap.size w16.heap.size w18 vw Fw) := (HW.out.here H17.out).here H18.out
      have H1618 : Hid (Below w16.heap.size w16 w18) := H17.out.trans (hb18.mono H17.out.size)
      clear hx hxl hxe hb18 HR3
      go_wp2_with fail
      refine (same_true HW18.out.listAt (HT.out.list (by have := HTL.out; omega)) (by rw [HWE.out, HTE.out])).mono ?_
      rintro e w19 ⟨rfl, hb19⟩
      have H19 : Hid (Below wr.heap.size wr w19) := (H16.out.trans (H1618.out.mono H16.out.size)).trans (hb19.mono (Nat.le_trans H16.out.size H1618.out.size))
      have hs19 : w16.heap.size ≤ w19.heap.size := Nat.le_trans H1618.out.size hb19.size
      have hsr : wr.heap.size ≤ w16.heap.size := H16.out.size
      have HX19 : Hid (Dl w4.heap.size w5.heap.size w19 vx Fx) := HX15.out.here H19.out
      have HY19 : Hid (Dl w5.heap.size w6.heap.size w19 vy Fy) := HY15.out.here H19.out
      have HO19 : Hid (Dl w6.heap.size w7.heap.size w19 vo Fo) := HO15.out.here H19.out
      have HZ19 : Hid (Dl w7.heap.size w8.heap.size w19 vz Fz) := HZ15.out.here H19.out
      have HW19 : Hid (Dl wr.heap.size w16.heap.size w19 vw Fw) := HW18.out.here hb19
      have HSS : Hid (bk < w4.heap.size ∧ w4.heap.size ≤ w5.heap.size ∧ w5.heap.size ≤ w6.heap.size ∧ w6.heap.size ≤ w7.heap.size ∧ w7.heap.size ≤ w8.heap.size ∧ w8.heap.size ≤ wr.heap.size ∧ wr.heap.size ≤ w16.heap.size ∧ w16.heap.size ≤ w19.heap.size) := ⟨by omega, HSZ.out.1, HSZ.out.2.1, HSZ.out.2.2.1, HSZ.out.2.2.2.1, Nat.le_trans HSZ.out.2.2.2.2 HSZ2.out, hsr, hs19⟩
      have HFW : Hid (Fx.length ≤ 1024 ∧ Fy.length ≤ 1024 ∧ Fo.length ≤ 1024 ∧ Fz.length ≤ 1024 ∧ Fw.length ≤ 1024) := ⟨HX19.out.few, HY19.out.few, HO19.out.few, HZ19.out.few, HW19.out.few⟩
      have HBX : Hid (Bx bk 0 w4.heap.size [] w19) := Bx.new (by rw [H19.out.block bk (by have := HSS.out; omega)]; exact HBK2.out)
      have HWE2 : Hid (Below bk wB w19) := HWR.out.trans (H19.out.mono (by have := HSS.out; omega))
      clear hb19 hs19 hsr
      go_wp2_with fail
      refine (entries_dl HBX.out HX19.out HSS.out.1 (Nat.le_refl _) HSS.out.2.1 (by have := HSS.out; omega) (by omega) (by simp)).mono ?_
      rintro e w20 ⟨rfl, hbx, hko⟩
      have HBX1 : Hid _ := hbx
      have K1 : Hid (KeO bk w19 w20) := hko
      clear hbx hko
      go_wp2_with fail
      refine (entries_dl HBX1.out (HY19.out.keo K1.out) (by have := HSS.out; omega) (Nat.le_refl _) HSS.out.2.2.1 (by have := HSS.out; have := K1.out.low.size; omega) (by have := HFW.out; omega) (by simp)).mono ?_
      rintro e w21 ⟨rfl, hbx, hko⟩
      have HBX2 : Hid _ := hbx
      have K2 : Hid (KeO bk w19 w21) := K1.out.trans hko
      clear hbx hko HBX1
      go_wp2_with fail
      refine (entries_dl HBX2.out (HO19.out.keo K2.out) (by have := HSS.out; omega) (Nat.le_refl _) HSS.out.2.2.2.1 (by have := HSS.out; have := K2.out.low.size; omega) (by have := HFW.out; omega) (by simp)).mono ?_
      rintro e w22 ⟨rfl, hbx, hko⟩
      have HBX3 : Hid _ := hbx
      have K3 : Hid (KeO bk w19 w22) := K2.out.trans hko
      clear hbx hko HBX2
      go_wp2_with fail
      refine (entries_dl HBX3.out (HZ19.out.keo K3.out) (by have := HSS.out; omega) (Nat.le_refl _) HSS.out.2.2.2.2.1 (by have := HSS.out; have := K3.out.low.size; omega) (by have := HFW.out; omega) (by simp)).mono ?_
      rintro e w23 ⟨rfl, hbx, hko⟩
      have HBX4 : Hid _ := hbx
      have K4 : Hid (KeO bk w19 w23) := K3.out.trans hko
      clear hbx hko HBX3
      go_wp2_with fail
      refine (entries_dl HBX4.out (HW19.out.keo K4.out) (by have := HSS.out; omega) HSS.out.2.2.2.2.2.1 HSS.out.2.2.2.2.2.2.1 (by have := HSS.out; have := K4.out.low.size; omega) (by have := HFW.out; omega) (by simp)).mono ?_
      rintro e w24 ⟨rfl, hbx, hko⟩
      have HBX5 : Hid _ := hbx
      have K5 : Hid (KeO bk w19 w24) := K4.out.trans hko
      clear hbx hko HBX4
      go_wp2_with fail
      refine (bx_ends HBX5.out (by have := HFW.out; omega) (by simp)).mono ?_
      rintro e w25 ⟨rfl, hb25⟩
      have HEND : Hid (Below w.heap.size w w25) := HBW.out.trans (((HWE2.out.trans K5.out.low).trans hb25).mono HWB.out)
      clear hb25
      go_wp2_with fail
      go_ret
      exact ⟨rfl, HEND.out⟩
end Go.Proofs.Ytgifnaahahfhbaa
