/- awake: the chapter's examples. -/
import Derived.Test.YtkjjgbaoicjbaabAwakePure
import Derived.Lib.SlBytesConst
namespace Go.Proofs.Ytkjjgbaoicjbaab
open Go.RowKit

theorem const_any (W : World) (m : Nat) (C : Array Value) (n c : Nat) (h : W.heap.size = m) : Sem.run Try.prog (convert 23 23 (.slice (some ⟨m, 0, none⟩) n c)) (W.alloc (.cells C 5)) = .ok (.slice (some ⟨m, 0, none⟩) n c) (W.alloc (.cells C 5 (C.size, C.size + 1))) := by
  subst h
  exact Lib.run_convert_bytes_const (P := Try.prog) W 23 5 C n c Try.underlying23 Try.underlying5
theorem LitPost.open {w : World} {m : Ms} {r : Ending} {w' : World} (h : LitPost w m r w') : ∃ a1 c1 a2 c2 a3 c3, r = .returned (.agg #[.int .u64 (m.st : Int), .int .i64 m.kd, .slice a1 m.lo.length c1, .slice a2 m.hi.length c2, .slice a3 m.va.length c3]) ∧ Mt.Ok w'.heap.size w' ⟨.slice a1 m.lo.length c1, .slice a2 m.hi.length c2, .slice a3 m.va.length c3, m⟩ ∧ Below w.heap.size w w' := by
  obtain ⟨⟨v1, v2, v3, m'⟩, rfl, hm, hok, hb⟩ := h.is
  simp only at hm
  subst hm
  obtain ⟨a1, c1, e1⟩ := hok.lo.form
  obtain ⟨a2, c2, e2⟩ := hok.hi.form
  obtain ⟨a3, c3, e3⟩ := hok.va.form
  simp only at e1 e2 e3
  subst e1 e2 e3
  exact ⟨a1, c1, a2, c2, a3, c3, rfl, hok, hb⟩
theorem one_lit (w : World) (c : UInt8) (f : Nat × Nat) (C : Array Value) (hC : C = #[.int .u8 (c.toNat : Int)]) : KeyAt (w.alloc (.cells C 5 f)) (.slice (some ⟨w.heap.size, 0, none⟩) 1 1) [c] := by
  subst hC
  refine key_block (heap_alloc_last w _) (fun j x hj => ?_) 1 1 rfl (Nat.le_refl _) (by omega)
  match j, hj with
  | 0, hj => simp at hj; subst hj; rfl
  | j + 1, hj => simp at hj

set_option maxHeartbeats 3200000 in
set_option maxRecDepth 100000 in
theorem awake_any (w : World) : Calls Try.prog 4 #[] w fun e w' => e = .returned (.bool true) ∧ Below w.heap.size w w' := by
  have hcv := const_any
  have HG := gone_lit w 1 [97] [102] ⟨#[97]⟩ ⟨#[102]⟩ rfl rfl (by decide) (by decide) (by decide)
  go_enter Try.func4, Try.ntmps4
  go_wp2_with fail
  refine HG.mono ?_
  intro r w1 hp1
  obtain ⟨a1, c1, a2, c2, a3, c3, rfl, hok1, hb1⟩ := hp1.open
  have HO1 : Hid (Mt.Ok w1.heap.size w1 ⟨.slice a1 1 c1, .slice a2 1 c2, .slice a3 0 c3, ⟨1, 3, [97], [102], []⟩⟩) := hok1
  have HB1 : Hid (Below w.heap.size w w1) := hb1
  have HP := put_lit w1 2 [99] [120] ⟨#[99]⟩ ⟨#[120]⟩ rfl rfl (by decide) (by decide) (by decide)
  clear hp1 hok1 hb1 HG
  simp only [List.length_cons, List.length_nil, Nat.zero_add]
  go_wp2_with fail
  refine HP.mono ?_
  intro r w2 hp2
  obtain ⟨b1, d1, b2, d2, b3, d3, rfl, hok2, hb2⟩ := hp2.open
  have HO2 : Hid (Mt.Ok w2.heap.size w2 ⟨.slice b1 1 d1, .slice b2 0 d2, .slice b3 1 d3, ⟨2, 1, [99], [], [120]⟩⟩) := hok2
  have HB2 : Hid (Below w1.heap.size w1 w2) := hb2
  have HD := del_lit w2 3 [107] ⟨#[107]⟩ rfl (by decide) (by decide)
  clear hp2 hok2 hb2 HP
  simp only [List.length_cons, List.length_nil, Nat.zero_add]
  go_wp2_with fail
  refine HD.mono ?_
  intro r w3 hp3
  obtain ⟨g1, f1, g2, f2, g3, f3, rfl, hok3, hb3⟩ := hp3.open
  have HO3 : Hid (Mt.Ok w3.heap.size w3 ⟨.slice g1 1 f1, .slice g2 0 f2, .slice g3 0 f3, ⟨3, 2, [107], [], []⟩⟩) := hok3
  have HB3 : Hid (Below w2.heap.size w2 w3) := hb3
  clear hp3 hok3 hb3 HD
  simp only [List.length_cons, List.length_nil, Nat.zero_add]
  go_wp2_with fail
  obtain ⟨V, hV⟩ : ∃ V, V = w3.alloc (.cells #[.int .u64 1, .int .i64 3, .slice a1 1 c1, .slice a2 1 c2, .slice a3 0 c3, .int .u64 2, .int .i64 1, .slice b1 1 d1, .slice b2 0 d2, .slice b3 1 d3, .int .u64 3, .int .i64 2, .slice g1 1 f1, .slice g2 0 f2, .slice g3 0 f3] 38) := ⟨_, rfl⟩
  have HMV : Hid (MsgsAt V.heap.size V (.slice (some ⟨w3.heap.size, 0, none⟩) 3 3) [⟨.slice a1 1 c1, .slice a2 1 c2, .slice a3 0 c3, ⟨1, 3, [97], [102], []⟩⟩, ⟨.slice b1 1 d1, .slice b2 0 d2, .slice b3 1 d3, ⟨2, 1, [99], [], [120]⟩⟩, ⟨.slice g1 1 f1, .slice g2 0 f2, .slice g3 0 f3, ⟨3, 2, [107], [], []⟩⟩]) := by
    rw [Hid, hV]
    refine msgs_lit w3 [⟨.slice a1 1 c1, .slice a2 1 c2, .slice a3 0 c3, ⟨1, 3, [97], [102], []⟩⟩, ⟨.slice b1 1 d1, .slice b2 0 d2, .slice b3 1 d3, ⟨2, 1, [99], [], [120]⟩⟩, ⟨.slice g1 1 f1, .slice g2 0 f2, .slice g3 0 f3, ⟨3, 2, [107], [], []⟩⟩] (fun e he => ?_) (by simp)
    simp only [List.mem_cons, List.not_mem_nil, or_false] at he
    rcases he with rfl | rfl | rfl
    · exact (HO1.out.here HB2.out).here HB3.out
    · exact HO2.out.here HB3.out
    · exact HO3.out
  have HBV : Hid (Below w.heap.size w V) := by
    have h1 := HB1.out.trans (HB2.out.mono HB1.out.size)
    have h2 := h1.trans (HB3.out.mono h1.size)
    rw [Hid, hV]; exact h2.alloc h2.size _
  obtain ⟨vb, hvb⟩ : ∃ vb, vb = w3.heap.size := ⟨_, rfl⟩
  rw [← hvb] at HMV
  have HME := meaning_any HMV.out (by intro e he; simp only [List.mem_cons, List.not_mem_nil, or_false] at he; rcases he with rfl | rfl | rfl <;> simp) (by simp)
  rw [← hV, ← hvb]
  clear hV hvb HB1 HB2 HB3 HO1 HO2 HO3
  refine HME.mono ?_
  rintro r w4 ⟨pv, F, C, rfl, hcu, hpc, hfl, hpp, hb4⟩
  have hC : C = exC := IsCuts.unique hcu exC_is
  have hpF : pcsOf F = [⟨false, [], [], [97], [99]⟩, ⟨true, [99], [120], [], []⟩, ⟨false, [], [], [99, 0], [102]⟩, ⟨false, [], [], [107], [107, 0]⟩] := by rw [hpc, hC]; exact ex_pieces
  have hF4 : F.length = 4 := by have := congrArg List.length hpF; simpa [pcsOf] using this
  have HPP : Hid (Pcs V.heap.size w4 pv F) := hpp
  have HPF : Hid (pcsOf F = [⟨false, [], [], [97], [99]⟩, ⟨true, [99], [120], [], []⟩, ⟨false, [], [], [99, 0], [102]⟩, ⟨false, [], [], [107], [107, 0]⟩]) := hpF
  obtain ⟨pa, pc, hpv⟩ := own_form' hpp.own
  rw [hF4] at hpv
  subst hpv
  have HB4 : Hid (Below V.heap.size V w4) := hb4
  have HM4 : Hid (MsgsAt w4.heap.size w4 (.slice (some ⟨vb, 0, none⟩) 3 3) [⟨.slice a1 1 c1, .slice a2 1 c2, .slice a3 0 c3, ⟨1, 3, [97], [102], []⟩⟩, ⟨.slice b1 1 d1, .slice b2 0 d2, .slice b3 1 d3, ⟨2, 1, [99], [], [120]⟩⟩, ⟨.slice g1 1 f1, .slice g2 0 f2, .slice g3 0 f3, ⟨3, 2, [107], [], []⟩⟩]) := HMV.out.here hb4
  obtain ⟨U, hU⟩ : ∃ U, U = w4.alloc (.cells #[.int .u8 99] 5 (1, 2)) := ⟨_, rfl⟩
  have HBU : Hid (Below w4.heap.size w4 U) := by rw [hU]; exact below_new _ _
  have HGE := get_any (HM4.out.here HBU.out) (u := .slice (some ⟨w4.heap.size, 0, none⟩) 1 1) (k := [99]) (by rw [hU]; exact one_lit w4 99 (1, 2) _ rfl)
  rw [show getM (msOf [⟨.slice a1 1 c1, .slice a2 1 c2, .slice a3 0 c3, ⟨1, 3, [97], [102], []⟩⟩, ⟨.slice b1 1 d1, .slice b2 0 d2, .slice b3 1 d3, ⟨2, 1, [99], [], [120]⟩⟩, ⟨.slice g1 1 f1, .slice g2 0 f2, .slice g3 0 f3, ⟨3, 2, [107], [], []⟩⟩]) [99] = some (some [120]) from ex_get] at HGE
  simp only [Option.isSome_some, Option.getD_some] at HGE
  obtain ⟨L3, hL3⟩ : ∃ L3 : List Mt, L3 = [⟨.slice a1 1 c1, .slice a2 1 c2, .slice a3 0 c3, ⟨1, 3, [97], [102], []⟩⟩, ⟨.slice b1 1 d1, .slice b2 0 d2, .slice b3 1 d3, ⟨2, 1, [99], [], [120]⟩⟩, ⟨.slice g1 1 f1, .slice g2 0 f2, .slice g3 0 f3, ⟨3, 2, [107], [], []⟩⟩] := ⟨_, rfl⟩
  have HE3 : Hid (msOf L3 = exM) := by rw [Hid, hL3]; rfl
  rw [← hL3] at HM4
  clear hpp hpc hcu hfl hb4 hC hpF HME HMV hL3
  go_wp2_with fail
  rw [← hU]
  clear hU
  refine HGE.mono ?_
  rintro r w5 ⟨v5, rfl, hv5, hb5⟩
  have HB5 : Hid (Below w4.heap.size w4 w5) := HBU.out.trans (hb5.mono HBU.out.size)
  obtain ⟨a5, c5, e5⟩ := hv5.at.in.form
  simp only [List.length_cons, List.length_nil, Nat.zero_add] at e5
  subst e5
  have HV5 : Hid (KeyAt w5 (.slice a5 1 c5) [120]) := hv5.at
  have HDL := del_lit w5 5 [97] ⟨#[97]⟩ rfl (by decide) (by decide)
  clear hv5 hb5 HGE HBU
  go_wp2_with fail
  refine HDL.mono ?_
  intro r w6 hp6
  obtain ⟨a6, c6, a7, c7, a8, c8, rfl, hok6, hb6⟩ := hp6.open
  have HO6 : Hid (Mt.Ok w6.heap.size w6 ⟨.slice a6 1 c6, .slice a7 0 c7, .slice a8 0 c8, ⟨5, 2, [97], [], []⟩⟩) := hok6
  have HB6 : Hid (Below w4.heap.size w4 w6) := HB5.out.trans (hb6.mono HB5.out.size)
  have HV6 : Hid (KeyAt w6 (.slice a5 1 c5) [120]) := HV5.out.here hb6
  obtain ⟨V6, hV6⟩ : ∃ V6, V6 = w6.alloc (.cells #[.int .u64 5, .int .i64 2, .slice a6 1 c6, .slice a7 0 c7, .slice a8 0 c8] 38) := ⟨_, rfl⟩
  have HBV6 : Hid (Below w6.heap.size w6 V6) := by rw [hV6]; exact below_new _ _
  have HM6 : MsgsAt V6.heap.size V6 (.slice (some ⟨w6.heap.size, 0, none⟩) 1 1) [⟨.slice a6 1 c6, .slice a7 0 c7, .slice a8 0 c8, ⟨5, 2, [97], [], []⟩⟩] := by rw [hV6]; exact msg_one w6 _ HO6.out
  have HEN := encode_any (z := 512) HM6 (by simp [msOf, sizesM, sizeM])
  rw [show checkM 512 (msOf [⟨.slice a6 1 c6, .slice a7 0 c7, .slice a8 0 c8, ⟨5, 2, [97], [], []⟩⟩]) = 0 from ex_one] at HEN
  rw [if_pos rfl, show by4 ([⟨.slice a6 1 c6, .slice a7 0 c7, .slice a8 0 c8, ⟨5, 2, [97], [], []⟩⟩] : List Mt).length ++ layL (msOf [⟨.slice a6 1 c6, .slice a7 0 c7, .slice a8 0 c8, ⟨5, 2, [97], [], []⟩⟩]) = [0, 0, 0, 1, 0, 0, 0, 0, 0, 0, 0, 5, 2, 0, 1, 0, 0, 97] from ex_lay] at HEN
  clear hp6 hok6 hb6 HDL HB5 HV5 HM6
  simp only [List.length_cons, List.length_nil, Nat.zero_add]
  go_wp2_with fail
  rw [← hV6]
  clear hV6
  refine HEN.mono ?_
  rintro r w7 ⟨v7, rfl, hv7, hb7⟩
  have HB7 : Hid (Below w6.heap.size w6 w7) := HBV6.out.trans (hb7.mono HBV6.out.size)
  have HDC := decode_any (z := 512) hv7.at.in
  obtain ⟨e7a, e7c, e7⟩ := hv7.at.in.form
  simp only [List.length_cons, List.length_nil, Nat.zero_add, Nat.reduceAdd] at e7
  subst e7
  clear hv7 hb7 HEN HBV6 HO6
  go_wp2_with fail
  refine HDC.mono ?_
  rintro r w8 ⟨v8, F8, rfl, hms8, hnm8, hfl8, hb8⟩
  rw [ex_dec] at hms8
  rw [ex_dec]
  have hf8 : F8.length = 1 := by have := congrArg List.length hms8; simpa [msOf] using this
  obtain ⟨a9, c9, e9⟩ := own_form' hnm8.own
  rw [hf8] at e9
  subst e9
  have HB8 : Hid (Below w6.heap.size w6 w8) := HB7.out.trans (hb8.mono HB7.out.size)
  clear hms8 hnm8 hfl8 hb8 HDC HB7 hf8
  go_wp2_with fail
  have HPL := put_lit w8 1 [98] [120] ⟨#[98]⟩ ⟨#[120]⟩ rfl rfl (by decide) (by decide) (by decide)
  refine HPL.mono ?_
  intro r w9 hp9
  obtain ⟨h1a, h1c, h2a, h2c, h3a, h3c, rfl, hok9, hb9⟩ := hp9.open
  have HO9 : Hid (Mt.Ok w9.heap.size w9 ⟨.slice h1a 1 h1c, .slice h2a 0 h2c, .slice h3a 1 h3c, ⟨1, 1, [98], [], [120]⟩⟩) := hok9
  have HB9 : Hid (Below w6.heap.size w6 w9) := HB8.out.trans (hb9.mono HB8.out.size)
  have HGL := gone_lit w9 2 [97] [99] ⟨#[97]⟩ ⟨#[99]⟩ rfl rfl (by decide) (by decide) (by decide)
  clear hp9 hok9 hb9 HPL HB8
  simp only [List.length_cons, List.length_nil, Nat.zero_add]
  go_wp2_with fail
  refine HGL.mono ?_
  intro r w10 hp10
  obtain ⟨k1a, k1c, k2a, k2c, k3a, k3c, rfl, hok10, hb10⟩ := hp10.open
  have HO10 : Hid (Mt.Ok w10.heap.size w10 ⟨.slice k1a 1 k1c, .slice k2a 1 k2c, .slice k3a 0 k3c, ⟨2, 3, [97], [99], []⟩⟩) := hok10
  have HO9' : Hid (Mt.Ok w10.heap.size w10 ⟨.slice h1a 1 h1c, .slice h2a 0 h2c, .slice h3a 1 h3c, ⟨1, 1, [98], [], [120]⟩⟩) := HO9.out.here hb10
  have HB10 : Hid (Below w6.heap.size w6 w10) := HB9.out.trans (hb10.mono HB9.out.size)
  obtain ⟨V10, hV10⟩ : ∃ V10, V10 = w10.alloc (.cells #[.int .u64 1, .int .i64 1, .slice h1a 1 h1c, .slice h2a 0 h2c, .slice h3a 1 h3c, .int .u64 2, .int .i64 3, .slice k1a 1 k1c, .slice k2a 1 k2c, .slice k3a 0 k3c] 38) := ⟨_, rfl⟩
  have HBV10 : Hid (Below w10.heap.size w10 V10) := by rw [hV10]; exact below_new _ _
  have HM10 : MsgsAt V10.heap.size V10 (.slice (some ⟨w10.heap.size, 0, none⟩) 2 2) [⟨.slice h1a 1 h1c, .slice h2a 0 h2c, .slice h3a 1 h3c, ⟨1, 1, [98], [], [120]⟩⟩, ⟨.slice k1a 1 k1c, .slice k2a 1 k2c, .slice k3a 0 k3c, ⟨2, 3, [97], [99], []⟩⟩] := by
    rw [hV10]
    refine msgs_lit w10 [⟨.slice h1a 1 h1c, .slice h2a 0 h2c, .slice h3a 1 h3c, ⟨1, 1, [98], [], [120]⟩⟩, ⟨.slice k1a 1 k1c, .slice k2a 1 k2c, .slice k3a 0 k3c, ⟨2, 3, [97], [99], []⟩⟩] (fun e he => ?_) (by simp)
    simp only [List.mem_cons, List.not_mem_nil, or_false] at he
    rcases he with rfl | rfl
    · exact HO9'.out
    · exact HO10.out
  have HSE := settle_any HM10 (by intro e he; simp only [List.mem_cons, List.not_mem_nil, or_false] at he; rcases he with rfl | rfl <;> simp)
  clear hp10 hok10 hb10 HGL HB9 HO9 HM10
  simp only [List.length_cons, List.length_nil, Nat.zero_add]
  go_wp2_with fail
  rw [← hV10]
  clear hV10
  refine HSE.mono ?_
  rintro r w11 ⟨v11, F11, C11, rfl, hcu11, hms11, hnm11, hfl11, hb11⟩
  have hf11 : F11.length = 1 := by
    rw [IsCuts.unique hcu11 exD_is] at hms11
    have := congrArg List.length (hms11.trans ex_settle)
    simpa [msOf] using this
  obtain ⟨a11, c11, e11⟩ := own_form' hnm11.own
  rw [hf11] at e11
  subst e11
  have HB11 : Hid (Below w6.heap.size w6 w11) := (HB10.out.trans (HBV10.out.mono HB10.out.size)).trans (hb11.mono (Nat.le_trans HB10.out.size HBV10.out.size))
  have HB411 : Hid (Below w4.heap.size w4 w11) := HB6.out.trans (HB11.out.mono HB6.out.size)
  have HCK := check_any (z := 512) (HM4.out.here HB411.out)
  rw [HE3.out, ex_check] at HCK
  clear hcu11 hms11 hnm11 hfl11 hb11 hf11 HSE HB10 HBV10 HO10 HO9'
  go_wp2_with fail
  refine HCK.mono ?_
  rintro r w12 ⟨rfl, hb12⟩
  have HB12 : Hid (Below w11.heap.size w11 w12) := hb12
  have HPL := put_lit w12 2 [97] [120] ⟨#[97]⟩ ⟨#[120]⟩ rfl rfl (by decide) (by decide) (by decide)
  clear hb12 HCK
  go_wp2_with fail
  refine HPL.mono ?_
  intro r w13 hp13
  obtain ⟨h1a, h1c, h2a, h2c, h3a, h3c, rfl, hok13, hb13⟩ := hp13.open
  have HO13 : Hid (Mt.Ok w13.heap.size w13 ⟨.slice h1a 1 h1c, .slice h2a 0 h2c, .slice h3a 1 h3c, ⟨2, 1, [97], [], [120]⟩⟩) := hok13
  have HB13 : Hid (Below w11.heap.size w11 w13) := HB12.out.trans (hb13.mono HB12.out.size)
  have HDL := del_lit w13 2 [98] ⟨#[98]⟩ rfl (by decide) (by decide)
  clear hp13 hok13 hb13 HPL HB12
  simp only [List.length_cons, List.length_nil, Nat.zero_add]
  go_wp2_with fail
  refine HDL.mono ?_
  intro r w14 hp14
  obtain ⟨k1a, k1c, k2a, k2c, k3a, k3c, rfl, hok14, hb14⟩ := hp14.open
  have HO14 : Hid (Mt.Ok w14.heap.size w14 ⟨.slice k1a 1 k1c, .slice k2a 0 k2c, .slice k3a 0 k3c, ⟨2, 2, [98], [], []⟩⟩) := hok14
  have HO13' : Hid (Mt.Ok w14.heap.size w14 ⟨.slice h1a 1 h1c, .slice h2a 0 h2c, .slice h3a 1 h3c, ⟨2, 1, [97], [], [120]⟩⟩) := HO13.out.here hb14
  have HB14 : Hid (Below w11.heap.size w11 w14) := HB13.out.trans (hb14.mono HB13.out.size)
  obtain ⟨V14, hV14⟩ : ∃ V14, V14 = w14.alloc (.cells #[.int .u64 2, .int .i64 1, .slice h1a 1 h1c, .slice h2a 0 h2c, .slice h3a 1 h3c, .int .u64 2, .int .i64 2, .slice k1a 1 k1c, .slice k2a 0 k2c, .slice k3a 0 k3c] 38) := ⟨_, rfl⟩
  have HBV14 : Hid (Below w14.heap.size w14 V14) := by rw [hV14]; exact below_new _ _
  have HM14 : MsgsAt V14.heap.size V14 (.slice (some ⟨w14.heap.size, 0, none⟩) 2 2) [⟨.slice h1a 1 h1c, .slice h2a 0 h2c, .slice h3a 1 h3c, ⟨2, 1, [97], [], [120]⟩⟩, ⟨.slice k1a 1 k1c, .slice k2a 0 k2c, .slice k3a 0 k3c, ⟨2, 2, [98], [], []⟩⟩] := by
    rw [hV14]
    refine msgs_lit w14 [⟨.slice h1a 1 h1c, .slice h2a 0 h2c, .slice h3a 1 h3c, ⟨2, 1, [97], [], [120]⟩⟩, ⟨.slice k1a 1 k1c, .slice k2a 0 k2c, .slice k3a 0 k3c, ⟨2, 2, [98], [], []⟩⟩] (fun e he => ?_) (by simp)
    simp only [List.mem_cons, List.not_mem_nil, or_false] at he
    rcases he with rfl | rfl
    · exact HO13'.out
    · exact HO14.out
  have HCK := check_any (z := 512) HM14
  rw [show checkM 512 (msOf [⟨.slice h1a 1 h1c, .slice h2a 0 h2c, .slice h3a 1 h3c, ⟨2, 1, [97], [], [120]⟩⟩, ⟨.slice k1a 1 k1c, .slice k2a 0 k2c, .slice k3a 0 k3c, ⟨2, 2, [98], [], []⟩⟩]) = 72 from ex_stamp] at HCK
  clear hp14 hok14 hb14 HDL HB13 HO13 HM14
  simp only [List.length_cons, List.length_nil, Nat.zero_add]
  go_wp2_with fail
  rw [← hV14]
  clear hV14
  refine HCK.mono ?_
  rintro r w15 ⟨rfl, hb15⟩
  have HB15 : Hid (Below w11.heap.size w11 w15) := (HB14.out.trans (HBV14.out.mono HB14.out.size)).trans (hb15.mono (Nat.le_trans HB14.out.size HBV14.out.size))
  have HB415 : Hid (Below w4.heap.size w4 w15) := HB411.out.trans (HB15.out.mono HB411.out.size)
  have HP15 : Hid (Pcs V.heap.size w15 (.slice pa 4 pc) F) := HPP.out.here HB4.out.size HB415.out
  have hVs : V.heap.size ≤ w15.heap.size := Nat.le_trans HB4.out.size HB415.out.size
  have hV15 : KeyAt w15 (.slice a5 1 c5) [120] := (HV6.out.here HB11.out).here HB15.out
  have e0 : Sem.run Try.prog (convert 23 9 (.slice a5 1 c5)) w15 = .ok (.string (strB [120])) w15 := conv_key hV15
  obtain ⟨p0, p1, p2, p3, rfl⟩ : ∃ p0 p1 p2 p3, F = [p0, p1, p2, p3] := by
    match F, hF4 with
    | [p0, p1, p2, p3], _ => exact ⟨p0, p1, p2, p3, rfl⟩
  have hq := HPF.out
  simp only [pcsOf, List.map_cons, List.map_nil, List.cons.injEq, and_true] at hq
  obtain ⟨q0, q1, q2, q3⟩ := hq
  obtain ⟨g', cg', eg, _, _, _, hce0⟩ := HP15.out.cells (i := 0) (e := p0) rfl
  obtain ⟨_, _, eg1, _, _, _, hce1⟩ := HP15.out.cells (i := 1) (e := p1) rfl
  obtain ⟨_, _, eg2, _, _, _, hce2⟩ := HP15.out.cells (i := 2) (e := p2) rfl
  cases eg
  cases eg1
  cases eg2
  have ok0 := HP15.out.ok p0 (by simp)
  have ok2 := HP15.out.ok p2 (by simp)
  have kk0 := ok0.hi.at hVs
  have kk2 := ok2.lo.at hVs
  rw [q0] at kk0
  rw [q2] at kk2
  obtain ⟨s0a, s0c, es0⟩ := kk0.in.form
  obtain ⟨s2a, s2c, es2⟩ := kk2.in.form
  simp only [List.length_cons, List.length_nil, Nat.zero_add, Nat.reduceAdd] at es0 es2
  have t0 : w15.cell? ⟨g', 4, none⟩ = some (.slice s0a 1 s0c) := by rw [← es0]; exact hce0 4 _ rfl
  have t1 : w15.cell? ⟨g', 6, none⟩ = some (.bool true) := by have := hce1 0 _ rfl; rw [q1] at this; exact this
  have t2 : w15.cell? ⟨g', 15, none⟩ = some (.slice s2a 2 s2c) := by rw [← es2]; exact hce2 3 _ rfl
  have e1 : Sem.run Try.prog (convert 23 9 (.slice s0a 1 s0c)) w15 = .ok (.string (strB [99])) w15 := by rw [← es0]; exact conv_key kk0
  have e2 : Sem.run Try.prog (convert 23 9 (.slice s2a 2 s2c)) w15 = .ok (.string (strB [99, 0])) w15 := by rw [← es2]; exact conv_key kk2
  have HEND : Hid (Below w.heap.size w w15) := (HBV.out.trans (HB4.out.mono HBV.out.size)).trans (HB415.out.mono (Nat.le_trans HBV.out.size HB4.out.size))
  have r0 : (strB [120]).toList = [120] := by rw [ByteArray.toList_eq]; rfl
  have r1 : (strB [99]).toList = [99] := by rw [ByteArray.toList_eq]; rfl
  have r2 : (strB [99, 0]).toList = [99, 0] := by rw [ByteArray.toList_eq]; rfl
  generalize strB [120] = S0 at e0 r0
  generalize strB [99] = S1 at e1 r1
  generalize strB [99, 0] = S2 at e2 r2
  clear hb15 HCK HB14 HBV14 HO14 HO13' hce0 hce1 hce2 ok0 ok2 kk0 kk2 q0 q1 q2 q3 es0 es2 hV15
  go_wp2
  go_ret
  exact ⟨rfl, HEND.out⟩
end Go.Proofs.Ytkjjgbaoicjbaab
