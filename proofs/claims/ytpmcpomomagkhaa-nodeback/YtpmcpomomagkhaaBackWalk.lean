/- NodeBack's walk: there and back, one form. -/
import Derived.Test.YtpmcpomomagkhaaShownN
import Derived.Test.YtpmcpomomagkhaaWeighN
import Derived.Test.YtpmcpomomagkhaaBrPick
namespace Go.Proofs.Ytpmcpomomagkhaa
open Go.RowKit

theorem node_sizes {z : Int} {n : Nd} (h : checkN z n = 0) : sizesM n.ms ≤ 1099511627776 := by
  have := (checkN_small h).2.1
  have e : bytesN n = bytesK n.k + (4 + sizesM n.ms) := rfl
  omega
theorem room_is {z : Int} (h : Sized z) : (roomN z : Int) = z - 32 ∧ 512 ≤ z ∧ z ≤ 4096 := by
  unfold roomN
  rw [if_pos h]
  rcases h with rfl | rfl | rfl | rfl <;> decide
theorem shift_is (P : Nat) (h : P < 4) : Sized (wrap64 (512 * 2 ^ P)) := by
  have : P = 0 ∨ P = 1 ∨ P = 2 ∨ P = 3 := by omega
  rcases this with rfl | rfl | rfl | rfl <;> decide +kernel

set_option maxHeartbeats 12800000 in
set_option maxRecDepth 100000 in
theorem back_walk {w : World} {c : Int} {v vb : Value} {x : List Int × List Br.Kc × List Mt} {b : Key} (hc : (Lit.int .i64 c).wf = true) (h : NodeAt w.heap.size w v x.1 x.2.1 x.2.2) (hb : KeyAt w vb b) :
    Calls Try.prog 4 #[.int .i64 c, v, vb] w fun e w' => e = .returned (.bool true) ∧ Below w.heap.size w w' := by
  obtain ⟨ps, K, M⟩ := x
  simp only at h
  obtain ⟨vp, vk, vm, rfl, hP, hK, hM⟩ := h.is
  obtain ⟨a1, c1, rfl⟩ := hP.form
  obtain ⟨a2, c2, rfl⟩ := hK.form
  obtain ⟨a3, c3, rfl⟩ := hM.form
  obtain ⟨ab, cb, rfl⟩ := hb.in.form
  have hsb := hb.in.short
  obtain ⟨W, hW⟩ : ∃ W, W = w.alloc (.cells #[.slice a1 ps.length c1, .slice a2 K.length c2, .slice a3 M.length c3] 31) := ⟨_, rfl⟩
  have HBW : Hid (Below w.heap.size w W) := by rw [hW]; exact below_new _ _
  have HX : Hid (NBox W w.heap.size (.slice a1 ps.length c1) (.slice a2 K.length c2) (.slice a3 M.length c3)) := by rw [hW]; exact NBox.new _ _ _ _
  have HN : Hid (∀ W', Below W.heap.size W W' → NodeAt W'.heap.size W' (.agg #[.slice a1 ps.length c1, .slice a2 K.length c2, .slice a3 M.length c3]) ps K M) := fun W' hb => (h.here HBW.out).here hb
  have HKB : Hid (∀ W', Below W.heap.size W W' → KeyAt W' (.slice ab b.length cb) b) := fun W' hb' => (hb.here HBW.out).here hb'
  clear h hP hK hM hb
  go_enter Try.func4, Try.ntmps4
  go_wp2_with fail
  rw [← hW]
  clear hW
  refine (shown_any W).mono ?_
  rintro e w1 ⟨rfl, hb1⟩
  have HB1 : Hid (Below W.heap.size W w1) := hb1
  have HPK := Br.pick_any w1 c 4 hc (by omega) (by omega)
  clear hb1
  go_wp2_with fail
  refine HPK.mono ?_
  rintro e w2 ⟨rfl, hw2⟩
  obtain rfl := hw2.symm
  obtain ⟨P, hP⟩ : ∃ P, P = Br.pickK c 4 := ⟨_, rfl⟩
  have hP4 : P < 4 := hP ▸ Br.pickK_lt c 4 (by omega)
  rw [← hP]
  clear hP HPK
  obtain ⟨z, hz⟩ : ∃ z : Int, z = wrap64 (512 * 2 ^ P) := ⟨_, rfl⟩
  have HSZ : Hid (Sized z) := by rw [Hid, hz]; exact shift_is P hP4
  go_upto_region 3 with fail
  rw [← hz]
  clear hz hP4
  obtain ⟨x0, x1, x2⟩ := (HX.out.here HB1.out).cells
  have HWG := weightN_any (HN.out w1 HB1.out)
  go_wp2_with fail
  refine HWG.mono ?_
  rintro r w3 ⟨n, rfl, hs, hn, hb3⟩
  have HB3 : Hid (Below W.heap.size W w3) := HB1.out.trans (hb3.mono HB1.out.size)
  have HEND3 : Hid (Below w.heap.size w w3) := HBW.out.trans (HB3.out.mono HBW.out.size)
  clear x0 x1 x2 hb3 HWG
  by_cases hbd : n ≤ 2147483647
  · have hzb : ¬ (2147483647 : Int) < (n : Int) := by omega
    by_cases hbl : b.length ≤ 2147483647
    · have hzl : ¬ (2147483647 : Int) < (b.length : Int) := by omega
      have HS : Hid (sizesM (msOf M) ≤ 1099511627776) := by have := hs hbd; unfold Hid; omega
      obtain ⟨x0, x1, x2⟩ := (HX.out.here HB3.out).cells
      have HEN := encodeN_any (z := z) (HN.out w3 HB3.out) HS.out
      clear hs hbd
      go_wp2_with fail
      refine HEN.mono ?_
      rintro r w4 ⟨v4, rfl, hk4, hb4⟩
      have HB4 : Hid (Below W.heap.size W w4) := HB3.out.trans (hb4.mono HB3.out.size)
      obtain ⟨a4, c4, f4⟩ := hk4.at.in.form
      subst f4
      have HCK := checkN_any (z := z) (HN.out w4 HB4.out) HS.out
      clear x0 x1 x2 HEN hb4
      obtain ⟨x0, x1, x2⟩ := (HX.out.here HB4.out).cells
      by_cases hck : checkN z (nd ps K M) = 0
      · rw [if_pos hck] at hk4 ⊢
        rw [hck] at HCK ⊢
        obtain ⟨T, hT⟩ : ∃ T, T = encN (nd ps K M) := ⟨_, rfl⟩
        have hTl : (T.length : Int) ≤ z - 32 := by
          have h1 := node_room hck
          rw [← hT] at h1
          have h2 := (room_is HSZ.out).1
          omega
        obtain ⟨hz1, hz2⟩ := (room_is HSZ.out).2
        have hTz : ¬ z - 32 < (T.length : Int) := by omega
        have HNO : Hid (¬ NoNode z T) := fun h => h _ hck hT.symm
        have HIN : Hid (∀ n', checkN z n' = 0 → encN n' = T → n' = nd ps K M) := fun n' h1 h2 => encN_inj h1 hck (by rw [h2, hT])
        rw [← hT] at hk4 ⊢
        have HK4 : Hid (KeyAt w4 (.slice a4 T.length c4) T) := hk4.at
        clear hT hck hk4
        go_wp2_with fail
        refine HCK.mono ?_
        rintro r w5 ⟨rfl, hb5⟩
        have HB5 : Hid (Below W.heap.size W w5) := HB4.out.trans (hb5.mono HB4.out.size)
        have HDE := decodeN_any (z := z) (HK4.out.here hb5).in
        clear hb5 HCK x0 x1 x2
        go_wp2_with fail
        refine HDE.mono ?_
        rintro r w6 ⟨v6, code, rfl, hb6, hcs⟩
        have HB6 : Hid (Below W.heap.size W w6) := HB5.out.trans (hb6.mono HB5.out.size)
        obtain ⟨rfl, d6, F6, hnn6, hck6, hec6⟩ : code = 0 ∧ ∃ d F, NewNode w5.heap.size w6 v6 d F ∧ checkN z ⟨d, msOf F⟩ = 0 ∧ encN ⟨d, msOf F⟩ = T := by
          rcases hcs with h | ⟨_, _, h⟩
          · exact h
          · exact absurd (h HSZ.out).2 HNO.out
        have his := HIN.out _ hck6 hec6
        obtain ⟨g1, n1, e1, g2, n2, e2, g3, e3, f6⟩ := hnn6.forms
        obtain ⟨K6, hna6, hkd6⟩ := hnn6.at (z := z) (checkN_ok hck6).1 (by have := (checkN_small hck6).2.2.1; rw [msOf_length] at this; omega)
        have HND6 : Hid (nd d6.ps K6 F6 = nd ps K M) := by rw [Hid, nd_eq hkd6, his]
        subst f6
        generalize F6.length = n3 at *
        obtain ⟨W6, hW6⟩ : ∃ W6, W6 = w6.alloc (.cells #[.slice g1 n1 e1, .slice g2 n2 e2, .slice g3 n3 e3] 31) := ⟨_, rfl⟩
        have hbw6 : Below w6.heap.size w6 W6 := by rw [hW6]; exact below_new _ _
        have HBW6 : Hid (Below W.heap.size W W6) := HB6.out.trans (hbw6.mono HB6.out.size)
        have HX6 : Hid (NBox W6 w6.heap.size (.slice g1 n1 e1) (.slice g2 n2 e2) (.slice g3 n3 e3)) := by rw [hW6]; exact NBox.new _ _ _ _
        have HSM := same_any (hna6.here hbw6) (HN.out W6 HBW6.out)
        rw [HND6.out, decide_eq_true rfl] at HSM
        obtain ⟨x0, x1, x2⟩ := (HX.out.here HBW6.out).cells
        obtain ⟨y0, y1, y2⟩ := HX6.out.cells
        clear hcs hnn6 hck6 hec6 his hna6 hkd6 hbw6 hb6 HDE HND6
        go_upto_region 10 with fail
        rw [← hW6]
        clear hW6
        go_wp2_with fail
        refine HSM.mono ?_
        rintro r w7 ⟨rfl, hb7⟩
        have HB7 : Hid (Below W.heap.size W w7) := HBW6.out.trans (hb7.mono HBW6.out.size)
        clear hb7 HSM x0 x1 x2 y0 y1 y2
        obtain ⟨wT, hwT⟩ : ∃ wT, wT = w7 := ⟨_, rfl⟩
        have HBT : Hid (Below W.heap.size W wT) := by rw [hwT]; exact HB7.out
        go_upto_region 13 with fail
        rw [← hwT]
        clear hwT
        have HD2 := decodeN_any (z := z) (HKB.out wT HBT.out).in
        go_wp2_with fail
        refine HD2.mono ?_
        rintro r w8 ⟨v8, code8, rfl, hb8, hcs8⟩
        have HB8 : Hid (Below W.heap.size W w8) := HBT.out.trans (hb8.mono HBT.out.size)
        clear hb8 HD2
        rcases hcs8 with ⟨rfl, d8, F8, hnn8, hck8, hec8⟩ | ⟨_, rfl, h84⟩
        · obtain ⟨g1, n1, e1, g2, n2, e2, g3, e3, f8⟩ := hnn8.forms
          obtain ⟨K8, hna8, hkd8⟩ := hnn8.at (z := z) (checkN_ok hck8).1 (by have := (checkN_small hck8).2.2.1; rw [msOf_length] at this; omega)
          have HND8 : Hid (nd d8.ps K8 F8 = ⟨d8, msOf F8⟩) := by rw [Hid, nd_eq hkd8]
          have HSZ8 : Hid (sizesM (msOf F8) ≤ 1099511627776) := node_sizes hck8
          subst f8
          generalize F8.length = n3 at *
          obtain ⟨W8, hW8⟩ : ∃ W8, W8 = w8.alloc (.cells #[.slice g1 n1 e1, .slice g2 n2 e2, .slice g3 n3 e3] 31) := ⟨_, rfl⟩
          have hbw8 : Below w8.heap.size w8 W8 := by rw [hW8]; exact below_new _ _
          have HBW8 : Hid (Below W.heap.size W W8) := HB8.out.trans (hbw8.mono HB8.out.size)
          have HX8 : Hid (NBox W8 w8.heap.size (.slice g1 n1 e1) (.slice g2 n2 e2) (.slice g3 n3 e3)) := by rw [hW8]; exact NBox.new _ _ _ _
          have HE8 := encodeN_any (z := z) (hna8.here hbw8) HSZ8.out
          rw [HND8.out, hck8, hec8] at HE8
          simp only [if_true] at HE8
          obtain ⟨x0, x1, x2⟩ := HX8.out.cells
          clear hnn8 hck8 hec8 hna8 hkd8 HND8 hbw8
          go_upto_region 14 with fail
          rw [← hW8]
          clear hW8
          go_wp2_with fail
          refine HE8.mono ?_
          rintro r w9 ⟨v9, rfl, hk9, hb9⟩
          obtain ⟨a9, c9, f9⟩ := hk9.at.in.form
          subst f9
          have HB9 : Hid (Below W.heap.size W w9) := HBW8.out.trans (hb9.mono HBW8.out.size)
          have HEND : Hid (Below w.heap.size w w9) := HBW.out.trans (HB9.out.mono HBW.out.size)
          have e5 := conv_key hk9.at
          have e6 := conv_key (HKB.out w9 HB9.out)
          have s1 := strB_eq b b
          rw [decide_eq_true rfl] at s1
          generalize strB b = S at *
          clear HE8 hk9 hb9 x0 x1 x2
          go_wp2
          go_ret
          exact ⟨by first | rfl | simp, HEND.out⟩
        · obtain ⟨rfl, _⟩ := h84 HSZ.out
          obtain ⟨W8, hW8⟩ : ∃ W8, W8 = w8.alloc (.cells #[.slice none 0 0, .slice none 0 0, .slice none 0 0] 31) := ⟨_, rfl⟩
          have hbw8 : Below w8.heap.size w8 W8 := by rw [hW8]; exact below_new _ _
          have HEND : Hid (Below w.heap.size w W8) := HBW.out.trans ((HB8.out.trans (hbw8.mono HB8.out.size)).mono HBW.out.size)
          have HX8 : Hid (NBox W8 w8.heap.size (.slice none 0 0) (.slice none 0 0) (.slice none 0 0)) := by rw [hW8]; exact NBox.new _ _ _ _
          obtain ⟨x0, x1, x2⟩ := HX8.out.cells
          clear h84 hbw8
          unfold zeroN
          go_upto_region 14 with fail
          rw [← hW8]
          clear hW8
          go_wp2
          go_ret
          exact ⟨by first | rfl | simp, HEND.out⟩
      · have hcz : ((checkN z (nd ps K M) : Int) == 0) = false := by rw [beq_eq_false_iff_ne]; omega
        rw [if_neg hck] at hk4 ⊢
        obtain ⟨C, hC⟩ : ∃ C, C = checkN z (nd ps K M) := ⟨_, rfl⟩
        rw [← hC] at HCK hcz ⊢
        clear hC hck hk4
        go_wp2_with fail
        refine HCK.mono ?_
        rintro r w5 ⟨rfl, hb5⟩
        have HB5 : Hid (Below W.heap.size W w5) := HB4.out.trans (hb5.mono HB4.out.size)
        clear hb5 HCK x0 x1 x2
        obtain ⟨wT, hwT⟩ : ∃ wT, wT = w5 := ⟨_, rfl⟩
        have HBT : Hid (Below W.heap.size W wT) := by rw [hwT]; exact HB5.out
        go_upto_region 13 with fail
        rw [← hwT]
        clear hwT
        have HD2 := decodeN_any (z := z) (HKB.out wT HBT.out).in
        go_wp2_with fail
        refine HD2.mono ?_
        rintro r w8 ⟨v8, code8, rfl, hb8, hcs8⟩
        have HB8 : Hid (Below W.heap.size W w8) := HBT.out.trans (hb8.mono HBT.out.size)
        clear hb8 HD2
        rcases hcs8 with ⟨rfl, d8, F8, hnn8, hck8, hec8⟩ | ⟨_, rfl, h84⟩
        · obtain ⟨g1, n1, e1, g2, n2, e2, g3, e3, f8⟩ := hnn8.forms
          obtain ⟨K8, hna8, hkd8⟩ := hnn8.at (z := z) (checkN_ok hck8).1 (by have := (checkN_small hck8).2.2.1; rw [msOf_length] at this; omega)
          have HND8 : Hid (nd d8.ps K8 F8 = ⟨d8, msOf F8⟩) := by rw [Hid, nd_eq hkd8]
          have HSZ8 : Hid (sizesM (msOf F8) ≤ 1099511627776) := node_sizes hck8
          subst f8
          generalize F8.length = n3 at *
          obtain ⟨W8, hW8⟩ : ∃ W8, W8 = w8.alloc (.cells #[.slice g1 n1 e1, .slice g2 n2 e2, .slice g3 n3 e3] 31) := ⟨_, rfl⟩
          have hbw8 : Below w8.heap.size w8 W8 := by rw [hW8]; exact below_new _ _
          have HBW8 : Hid (Below W.heap.size W W8) := HB8.out.trans (hbw8.mono HB8.out.size)
          have HX8 : Hid (NBox W8 w8.heap.size (.slice g1 n1 e1) (.slice g2 n2 e2) (.slice g3 n3 e3)) := by rw [hW8]; exact NBox.new _ _ _ _
          have HE8 := encodeN_any (z := z) (hna8.here hbw8) HSZ8.out
          rw [HND8.out, hck8, hec8] at HE8
          simp only [if_true] at HE8
          obtain ⟨x0, x1, x2⟩ := HX8.out.cells
          clear hnn8 hck8 hec8 hna8 hkd8 HND8 hbw8
          go_upto_region 14 with fail
          rw [← hW8]
          clear hW8
          go_wp2_with fail
          refine HE8.mono ?_
          rintro r w9 ⟨v9, rfl, hk9, hb9⟩
          obtain ⟨a9, c9, f9⟩ := hk9.at.in.form
          subst f9
          have HB9 : Hid (Below W.heap.size W w9) := HBW8.out.trans (hb9.mono HBW8.out.size)
          have HEND : Hid (Below w.heap.size w w9) := HBW.out.trans (HB9.out.mono HBW.out.size)
          have e5 := conv_key hk9.at
          have e6 := conv_key (HKB.out w9 HB9.out)
          have s1 := strB_eq b b
          rw [decide_eq_true rfl] at s1
          generalize strB b = S at *
          clear HE8 hk9 hb9 x0 x1 x2
          go_wp2
          go_ret
          exact ⟨by first | rfl | simp, HEND.out⟩
        · obtain ⟨rfl, _⟩ := h84 HSZ.out
          obtain ⟨W8, hW8⟩ : ∃ W8, W8 = w8.alloc (.cells #[.slice none 0 0, .slice none 0 0, .slice none 0 0] 31) := ⟨_, rfl⟩
          have hbw8 : Below w8.heap.size w8 W8 := by rw [hW8]; exact below_new _ _
          have HEND : Hid (Below w.heap.size w W8) := HBW.out.trans ((HB8.out.trans (hbw8.mono HB8.out.size)).mono HBW.out.size)
          have HX8 : Hid (NBox W8 w8.heap.size (.slice none 0 0) (.slice none 0 0) (.slice none 0 0)) := by rw [hW8]; exact NBox.new _ _ _ _
          obtain ⟨x0, x1, x2⟩ := HX8.out.cells
          clear h84 hbw8
          unfold zeroN
          go_upto_region 14 with fail
          rw [← hW8]
          clear hW8
          go_wp2
          go_ret
          exact ⟨by first | rfl | simp, HEND.out⟩
    · have hzl : (2147483647 : Int) < (b.length : Int) := by omega
      go_wp2
      go_ret
      exact ⟨rfl, HEND3.out⟩
  · have hzb : (2147483647 : Int) < (n : Int) := by omega
    go_wp2
    go_ret
    exact ⟨rfl, HEND3.out⟩
end Go.Proofs.Ytpmcpomomagkhaa
