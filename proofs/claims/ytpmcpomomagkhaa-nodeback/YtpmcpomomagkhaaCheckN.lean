/- roomOf, bytesOf, Check. -/
import Derived.Test.YtpmcpomomagkhaaFault
namespace Go.Proofs.Ytpmcpomomagkhaa
open Go.RowKit

set_option maxHeartbeats 800000 in
set_option maxRecDepth 100000 in
theorem roomOf_any (w : World) (z : Int) : Calls Try.prog 20 #[.int .i64 z] w fun r w' => r = .returned (.int .i64 (roomN z : Nat)) ∧ w' = w := by
  unfold roomN
  by_cases h : Sized z
  · rw [if_pos h]
    rcases h with rfl | rfl | rfl | rfl
    all_goals
      go_enter Try.func20, Try.ntmps20
      go_wp2
      go_ret
      exact ⟨rfl, rfl⟩
  · rw [if_neg h]
    have h1 : (z == 512) = false := by rw [beq_eq_false_iff_ne]; intro e; exact h (.inl e)
    have h2 : (z == 1024) = false := by rw [beq_eq_false_iff_ne]; intro e; exact h (.inr (.inl e))
    have h3 : (z == 2048) = false := by rw [beq_eq_false_iff_ne]; intro e; exact h (.inr (.inr (.inl e)))
    have h4 : (z == 4096) = false := by rw [beq_eq_false_iff_ne]; intro e; exact h (.inr (.inr (.inr e)))
    clear h
    go_enter Try.func20, Try.ntmps20
    go_wp2
    go_ret
    exact ⟨rfl, rfl⟩

set_option maxHeartbeats 1600000 in
set_option maxRecDepth 100000 in
theorem bytesOf_any {w : World} {a1 a2 a3 : Option Addr} {c1 c2 c3 : Nat} {ps : List Int} {K : List Br.Kc} {M : List Mt} (hP : Br.IntsAt w.heap.size w (.slice a1 ps.length c1) ps) (hK : Br.KeysAt w.heap.size w (.slice a2 K.length c2) K) (hM : MsgsAt w.heap.size w (.slice a3 M.length c3) M) (hb : bytesK (Br.kd ps K) ≤ 1000000000000) (hs : sizesM (msOf M) ≤ 1099511627776) :
    Calls Try.prog 23 #[.agg #[.slice a1 ps.length c1, .slice a2 K.length c2, .slice a3 M.length c3]] w fun r w' => r = .returned (.int .i64 (bytesN (nd ps K M) : Nat)) ∧ Below w.heap.size w w' := by
  obtain ⟨W, hW⟩ : ∃ W, W = w.alloc (.cells #[.slice a1 ps.length c1, .slice a2 K.length c2, .slice a3 M.length c3] 31) := ⟨_, rfl⟩
  have HBW : Hid (Below w.heap.size w W) := by rw [hW]; exact below_new _ _
  have HX : Hid (NBox W w.heap.size (.slice a1 ps.length c1) (.slice a2 K.length c2) (.slice a3 M.length c3)) := by rw [hW]; exact NBox.new _ _ _ _
  have HD : Hid (Below W.heap.size W W.drew) := (Below.refl _ _).drew
  have HBY : Hid (Calls Try.prog 19 #[.agg #[.slice a1 ps.length c1, .slice a2 K.length c2]] W.drew fun r w' => r = .returned (.int .i64 (bytesK (Br.kd ps K) : Nat)) ∧ Below W.drew.heap.size W.drew w') := by
    have := Br.bytes_any (ps := ps) (L := K) ⟨_, _, rfl, (hP.here HBW.out).here HD.out, (hK.here HBW.out).here HD.out⟩
    rw [Br.wrap_of _ (by omega) (by omega)] at this
    exact this
  have HMB : Hid (∀ W', Below W.heap.size W W' → Calls Try.prog 31 #[.slice a3 M.length c3] W' fun r w' => r = .returned (.int .i64 ((4 + sizesM (msOf M) : Nat) : Int)) ∧ Below W'.heap.size W' w') := fun W' hb => bytesG_any ((hM.here HBW.out).here hb) (by omega)
  have HE : Hid (bytesN (nd ps K M) = bytesK (Br.kd ps K) + (4 + sizesM (msOf M))) := rfl
  rw [HE.out]
  obtain ⟨A, hA⟩ : ∃ A, A = bytesK (Br.kd ps K) := ⟨_, rfl⟩
  obtain ⟨B, hB⟩ : ∃ B, B = 4 + sizesM (msOf M) := ⟨_, rfl⟩
  have hA1 : A ≤ 1000000000000 := by omega
  have hB1 : B ≤ 1099511627780 := by omega
  rw [← hA, ← hB]
  rw [← hA] at HBY
  rw [← hB] at HMB
  obtain ⟨x0, x1, x2⟩ := HX.out.cells
  clear hP hK hM hb hs hA hB HE
  go_enter Try.func23, Try.ntmps23
  go_wp2_with fail
  rw [← hW]
  clear hW
  go_region_held_law (fun W' => W'.cell? ⟨w.heap.size, 0, none⟩ = some (.slice a1 ps.length c1) ∧ W'.cell? ⟨w.heap.size, 1, none⟩ = some (.slice a2 K.length c2) ∧ W'.cell? ⟨w.heap.size, 2, none⟩ = some (.slice a3 M.length c3)) (first | go_keep | (refine ⟨?_, ?_, ?_⟩ <;> assumption))
    (first
      | (go_at_call 19
         refine HBY.out.mono ?_
         rintro r w1 ⟨rfl, hb1⟩
         have HB1 : Hid (Below W.heap.size W w1) := HD.out.trans (hb1.mono HD.out.size)
         obtain ⟨y0, y1, y2⟩ := (HX.out.here HB1.out).cells
         clear hb1)
      | (go_at_call 31
         refine (HMB.out _ HB1.out).mono ?_
         rintro r w2 ⟨rfl, hb2⟩
         have HB2 : Hid (Below W.heap.size W w2) := HB1.out.trans (hb2.mono HB1.out.size)
         obtain ⟨z0, z1, z2⟩ := (HX.out.here HB2.out).cells
         clear hb2))
  go_wp2
  go_ret
  exact ⟨ret_int (by rw [Br.wrapk_of _ (by omega) (by omega)]; omega), HBW.out.trans (HB2.out.mono HBW.out.size)⟩

theorem homes_at {base : Nat} {w : World} {v : Value} {d : Kd} {M : List Ms} (h : Br.NewInts base w v (homes d M)) (hk : d.ks.length ≤ 10000000000000) (hm : M.length * 88 ≤ 140737488355328) : Br.IntsAt w.heap.size w v (homes d M) := by
  refine h.ints (by rw [homes_length]; omega) fun p hp => ?_
  obtain ⟨m, _, rfl⟩ := List.mem_map.1 hp
  have := home_le d m
  omega

set_option maxHeartbeats 3200000 in
set_option maxRecDepth 100000 in
theorem checkN_any {w : World} {v : Value} {ps : List Int} {K : List Br.Kc} {M : List Mt} {z : Int} (h : NodeAt w.heap.size w v ps K M) (hs : sizesM (msOf M) ≤ 1099511627776) :
    Calls Try.prog 10 #[.int .i64 z, v] w fun r w' => r = .returned (.int .i64 (checkN z (nd ps K M) : Nat)) ∧ Below w.heap.size w w' := by
  obtain ⟨vp, vk, vm, rfl, hP, hK, hM⟩ := h.is
  obtain ⟨a1, c1, rfl⟩ := hP.form
  obtain ⟨a2, c2, rfl⟩ := hK.form
  obtain ⟨a3, c3, rfl⟩ := hM.form
  have hsM := hM.short
  have hsK := hK.short
  obtain ⟨W, hW⟩ : ∃ W, W = w.alloc (.cells #[.slice a1 ps.length c1, .slice a2 K.length c2, .slice a3 M.length c3] 31) := ⟨_, rfl⟩
  have HBW : Hid (Below w.heap.size w W) := by rw [hW]; exact below_new _ _
  have HX : Hid (NBox W w.heap.size (.slice a1 ps.length c1) (.slice a2 K.length c2) (.slice a3 M.length c3)) := by rw [hW]; exact NBox.new _ _ _ _
  have HP : Hid (Br.IntsAt W.heap.size W (.slice a1 ps.length c1) ps) := hP.here HBW.out
  have HK : Hid (Br.KeysAt W.heap.size W (.slice a2 K.length c2) K) := hK.here HBW.out
  have HM : Hid (MsgsAt W.heap.size W (.slice a3 M.length c3) M) := hM.here HBW.out
  have HKI : Hid (∀ W', Below W.heap.size W W' → Br.KidsAt W'.heap.size W' (.agg #[.slice a1 ps.length c1, .slice a2 K.length c2]) ps K) := fun W' hb => ⟨_, _, rfl, HP.out.here hb, HK.out.here hb⟩
  have HCK : Hid (Calls Try.prog 18 #[.int .i64 z, .agg #[.slice a1 ps.length c1, .slice a2 K.length c2]] W fun r w'' => r = .returned (.int .i64 (checkK z (Br.kd ps K) : Nat)) ∧ Below W.heap.size W w'') := Br.check_any (HKI.out W (Below.refl _ _))
  have HDEF : Hid (checkN z (nd ps K M) = if checkK z (Br.kd ps K) ≠ 0 then checkK z (Br.kd ps K) else if roomN z / 2 < bytesK (Br.kd ps K) then 81 else if faultN z (nd ps K M) ≠ 0 then faultN z (nd ps K M) else if roomN z < bytesN (nd ps K M) then 82 else 0) := rfl
  obtain ⟨x0, x1, x2⟩ := HX.out.cells
  obtain ⟨R, hR⟩ : ∃ R, R = checkN z (nd ps K M) := ⟨_, rfl⟩
  rw [← hR] at HDEF ⊢
  clear h hP hK hM hR
  by_cases hc : checkK z (Br.kd ps K) = 0
  · have hck := checkK_ok hc
    have hcs := check_small hc
    have HRI : Hid (riseK (Br.keysOf K) = true) := hck.2.2.2.2.2.1
    have hroom : roomN z ≤ 4064 := by unfold roomN; rw [if_pos hck.1]; have := sized_le hck.1; omega
    have hby := hcs.2.2.1
    have hD := HDEF.out
    rw [if_neg (by simp [hc])] at hD
    have HD1 : Hid _ := hD
    rw [hc] at HCK
    have HBY : Hid (∀ W', Below W.heap.size W W' → Calls Try.prog 19 #[.agg #[.slice a1 ps.length c1, .slice a2 K.length c2]] W' fun r w' => r = .returned (.int .i64 (bytesK (Br.kd ps K) : Nat)) ∧ Below W'.heap.size W' w') := fun W' hb => by
      have := Br.bytes_any (HKI.out W' hb)
      rw [Br.wrap_of _ (by omega) (by omega)] at this
      exact this
    have HBN : Hid (∀ W', Below W.heap.size W W' → Calls Try.prog 23 #[.agg #[.slice a1 ps.length c1, .slice a2 K.length c2, .slice a3 M.length c3]] W' fun r w' => r = .returned (.int .i64 (bytesN (nd ps K M) : Nat)) ∧ Below W'.heap.size W' w') := fun W' hb => bytesOf_any (HP.out.here hb) (HK.out.here hb) (HM.out.here hb) (by omega) hs
    have HPO : Hid (∀ W', Below W.heap.size W W' → Calls Try.prog 21 #[.agg #[.slice a1 ps.length c1, .slice a2 K.length c2, .slice a3 M.length c3]] W' fun r w' => PartsPost W' (.slice a1 ps.length c1) (.slice a2 K.length c2) (.slice a3 M.length c3) (homes (Br.kd ps K) (msOf M)) r w') := fun W' hb => partsOf_any (HK.out.here hb) (HM.out.here hb) HRI.out
    obtain ⟨Y, hY⟩ : ∃ Y, Y = bytesK (Br.kd ps K) := ⟨_, rfl⟩
    rw [← hY] at HBY HD1 hby
    obtain ⟨B, hB⟩ : ∃ B, B = bytesN (nd ps K M) := ⟨_, rfl⟩
    have hBl : B ≤ 1099511640000 := by rw [hB]; unfold bytesN; show bytesK (Br.kd ps K) + (4 + sizesM (msOf M)) ≤ _; omega
    rw [← hB] at HBN HD1
    obtain ⟨Q, hQ⟩ : ∃ Q, Q = roomN z := ⟨_, rfl⟩
    have HRO : Hid (∀ W', Calls Try.prog 20 #[.int .i64 z] W' fun r w' => r = .returned (.int .i64 (Q : Nat)) ∧ w' = W') := fun W' => by rw [hQ]; exact roomOf_any W' z
    rw [← hQ] at HD1 hroom
    have HKL : Hid ((Br.kd ps K).ks.length ≤ 10000000000000) := by have := hcs.2.1; rw [Hid]; omega
    clear hc hck hcs hD HDEF hY hB hQ
    go_enter Try.func10, Try.ntmps10
    go_wp2_with fail
    rw [← hW]
    clear hW
    refine HCK.out.mono ?_
    rintro r w1 ⟨rfl, hb1⟩
    have HB1 : Hid (Below W.heap.size W w1) := hb1
    obtain ⟨y0, y1, y2⟩ := (HX.out.here hb1).cells
    clear hb1 HCK x0 x1 x2
    go_wp2_with fail
    refine (HBY.out _ HB1.out).mono ?_
    rintro r w2 ⟨rfl, hb2⟩
    have HB2 : Hid (Below W.heap.size W w2) := HB1.out.trans (hb2.mono HB1.out.size)
    obtain ⟨z0, z1, z2⟩ := (HX.out.here HB2.out).cells
    clear hb2 y0 y1 y2
    go_wp2_with fail
    refine (HRO.out _).mono ?_
    rintro r w3 ⟨rfl, hw3⟩
    obtain rfl := hw3.symm
    by_cases hlo : Q / 2 < Y
    · have hlz : (Q : Int) / 2 < (Y : Int) := by omega
      have HRR : Hid (R = 81) := by have := HD1.out; rw [if_pos hlo] at this; exact this
      go_wp2
      go_ret
      exact ⟨by rw [HRR.out]; rfl, HBW.out.trans (HB2.out.mono HBW.out.size)⟩
    · have hlz : ¬ (Q : Int) / 2 < (Y : Int) := by omega
      have hD := HD1.out
      rw [if_neg hlo] at hD
      have HD2 : Hid _ := hD
      clear hD HD1 hlo
      go_wp2_with fail
      refine (HPO.out _ HB2.out).mono ?_
      rintro r w4 ⟨u, rfl, hu, hb4⟩
      have HB4 : Hid (Below W.heap.size W w4) := HB2.out.trans (hb4.mono HB2.out.size)
      obtain ⟨au, cu, eu⟩ := own_form' hu.own
      rw [homes_length, msOf_length] at eu
      subst eu
      have HFA := fault_any (z := z) (w := w4) (a4 := au) (c4 := cu) ⟨HP.out.here HB4.out, HK.out.here HB4.out, HM.out.here HB4.out, homes_at hu HKL.out (by rw [msOf_length]; exact hsM)⟩
      rw [show faultL z (Br.kd ps K) none (msOf M) = faultN z (nd ps K M) from rfl] at HFA
      obtain ⟨t0, t1, t2⟩ := (HX.out.here HB4.out).cells
      obtain ⟨F, hF⟩ : ∃ F, F = faultN z (nd ps K M) := ⟨_, rfl⟩
      rw [← hF] at HFA HD2
      clear hu hb4 hF z0 z1 z2
      go_wp2_with fail
      refine HFA.mono ?_
      rintro r w5 ⟨rfl, hb5⟩
      have HB5 : Hid (Below W.heap.size W w5) := HB4.out.trans (hb5.mono HB4.out.size)
      obtain ⟨s0, s1, s2⟩ := (HX.out.here HB5.out).cells
      clear hb5 HFA t0 t1 t2
      by_cases hf : F = 0
      · have hD := HD2.out
        rw [if_neg (by simp [hf])] at hD
        have HD3 : Hid _ := hD
        subst hf
        clear hD HD2
        go_wp2_with fail
        refine (HBN.out _ HB5.out).mono ?_
        rintro r w6 ⟨rfl, hb6⟩
        have HB6 : Hid (Below w.heap.size w w6) := HBW.out.trans ((HB5.out.trans (hb6.mono HB5.out.size)).mono HBW.out.size)
        clear hb6
        go_wp2_with fail
        refine (HRO.out _).mono ?_
        rintro r w7 ⟨rfl, hw7⟩
        obtain rfl := hw7.symm
        by_cases hlg : Q < B
        · have hlz2 : (Q : Int) < (B : Int) := by omega
          have HRR : Hid (R = 82) := by have := HD3.out; rw [if_pos hlg] at this; exact this
          go_wp2
          go_ret
          exact ⟨by rw [HRR.out]; rfl, HB6.out⟩
        · have hlz2 : ¬ (Q : Int) < (B : Int) := by omega
          have HRR : Hid (R = 0) := by have := HD3.out; rw [if_neg hlg] at this; exact this
          go_wp2
          go_ret
          exact ⟨by rw [HRR.out]; rfl, HB6.out⟩
      · have hfz : ((F : Int) != 0) = true := by simp; omega
        have HRR : Hid (R = F) := by have := HD2.out; rw [if_pos hf] at this; exact this
        clear hf
        go_wp2
        go_ret
        exact ⟨by rw [HRR.out]; rfl, HBW.out.trans (HB5.out.mono HBW.out.size)⟩
  · have hcz : (((checkK z (Br.kd ps K) : Nat) : Int) != 0) = true := by simp; omega
    have HRR : Hid (R = checkK z (Br.kd ps K)) := by have := HDEF.out; rw [if_pos hc] at this; exact this
    clear hc
    go_enter Try.func10, Try.ntmps10
    go_wp2_with fail
    rw [← hW]
    clear hW
    refine HCK.out.mono ?_
    rintro r w1 ⟨rfl, hb1⟩
    have HB1 : Hid (Below w.heap.size w w1) := HBW.out.trans (hb1.mono HBW.out.size)
    clear hb1
    go_wp2
    go_ret
    exact ⟨by rw [HRR.out]; rfl, HB1.out⟩
end Go.Proofs.Ytpmcpomomagkhaa
