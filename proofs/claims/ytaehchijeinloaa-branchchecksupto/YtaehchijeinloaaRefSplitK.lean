/- Split of banyanref06. -/
import Derived.Test.YtaehchijeinloaaRefCheck
import Derived.Test.YtaehchijeinloaaSplit
namespace Go.Proofs.Ytaehchijeinloaa
open Go.RowKit

theorem bytesL_drop_le (ks : List Key) (k : Nat) : bytesL (ks.drop k) ≤ bytesL ks := by
  have h := bytesL_append (ks.take k) (ks.drop k)
  rw [List.take_append_drop] at h
  omega
theorem first_le (d : Kd) (n : Nat) : bytesK (firstK d n) ≤ bytesK d := by
  have h := bytesL_take_le d.ks (n - 1)
  have h2 : (d.ps.take n).length ≤ d.ps.length := by rw [List.length_take]; exact Nat.min_le_right _ _
  show 2 + 4 * (d.ps.take n).length + bytesL (d.ks.take (n - 1)) ≤ 2 + 4 * d.ps.length + bytesL d.ks
  omega
theorem others_le (d : Kd) (n : Nat) : bytesK (othersK d n) ≤ bytesK d := by
  have h := bytesL_drop_le d.ks n
  have h2 : (d.ps.drop n).length ≤ d.ps.length := by rw [List.length_drop]; omega
  show 2 + 4 * (d.ps.drop n).length + bytesL (d.ks.drop n) ≤ 2 + 4 * d.ps.length + bytesL d.ks
  omega
theorem long_light {ps : List Int} {L : List Kc} (h : Light ps L) (n : Nat) : longK wrap64 (kd ps L) n = max (bytesK (firstK (kd ps L) n) : Int) (bytesK (othersK (kd ps L) n) : Int) := by
  have h1 := light_bytes h
  have h2 := first_le (kd ps L) n
  have h3 := others_le (kd ps L) n
  unfold longK
  rw [wrap_of _ (by omega) (by omega), wrap_of _ (by omega) (by omega)]
/-- What is behind, by what is ahead. -/
theorem behind_is {d : Kd} {n : Nat} {x : Key} (h1 : 1 ≤ n) (hn : n ≤ d.ps.length) (hx : d.ks[n - 1]? = some x) : bytesK (firstK d n) + bytesK (othersK d n) + x.length = bytesK d := by
  have hn' : (n - 1) + 1 = n := by omega
  have e1 : bytesL (d.ks.take (n - 1)) + bytesL (d.ks.drop (n - 1)) = bytesL d.ks := by rw [← bytesL_append, List.take_append_drop]
  have e2 := bytesL_drop d.ks (n - 1) x hx
  rw [hn'] at e2
  have e3 : (d.ps.take n).length = n := by rw [List.length_take]; omega
  have e4 : (d.ps.drop n).length = d.ps.length - n := List.length_drop
  show (2 + 4 * (d.ps.take n).length + bytesL (d.ks.take (n - 1))) + (2 + 4 * (d.ps.drop n).length + bytesL (d.ks.drop n)) + x.length = 2 + 4 * d.ps.length + bytesL d.ks
  omega

set_option maxHeartbeats 3200000 in
set_option maxRecDepth 100000 in
theorem refSplit_any {w : World} {v : Value} {ps : List Int} {L : List Kc} {z : Int} (h : KidsAt w.heap.size w v ps L) (hl : Light ps L) :
    Calls Try.prog 32 #[.int .i64 z, v] w fun r w' => r = .returned (.tuple #[.int .i64 ((splitK wrap64 z (kd ps L)).1 : Nat), .int .i64 ((splitK wrap64 z (kd ps L)).2 : Nat)]) ∧ Below w.heap.size w w' := by
  have HLI : Hid (Light ps L) := hl
  obtain ⟨vp, vk, rfl, h1, h2⟩ := h.is
  obtain ⟨a1, c1, rfl⟩ := h1.form
  obtain ⟨a2, c2, rfl⟩ := h2.form
  have hs1 := h1.short
  have hs2 := h2.short
  obtain ⟨W, hW⟩ : ∃ W, W = w.alloc (.cells #[.slice a1 ps.length c1, .slice a2 L.length c2] 26) := ⟨_, rfl⟩
  have HBW : Hid (Below w.heap.size w W) := by rw [hW]; exact below_new _ _
  have HX : Hid (KBox W w.heap.size (.slice a1 ps.length c1) (.slice a2 L.length c2)) := by rw [hW]; exact KBox.new _ _ _
  have HK : Hid (KeysAt W.heap.size W (.slice a2 L.length c2) L) := h2.here HBW.out
  have HKD : Hid (KidsAt W.heap.size W (.agg #[.slice a1 ps.length c1, .slice a2 L.length c2]) ps L) := h.here HBW.out
  clear h h1 h2 hl
  obtain ⟨k0, k1⟩ := HX.out.cells
  have HS := refSized_any W z
  by_cases hsz : Sized z
  · rw [decide_eq_true hsz] at HS
    have hzz := sized_le hsz
    have HSZ : Hid (Sized z) := hsz
    have HF := refFit_any HKD.out
    cases hf : (kd ps L).fit with
    | false =>
      have HE : Hid (splitK wrap64 z (kd ps L) = (0, 1)) := by unfold splitK; rw [Hid, if_pos (.inr (.inl hf))]
      rw [hf] at HF
      clear hf hsz
      go_enter Try.func32, Try.ntmps32
      go_wp2_with fail
      rw [← hW]
      refine HS.mono ?_
      rintro e w1 ⟨rfl, rfl⟩
      clear hW
      go_wp2_with fail
      refine HF.mono ?_
      rintro e w2 ⟨rfl, hb⟩
      have HB2 : Hid (Below w.heap.size w w2) := HBW.out.trans (hb.mono HBW.out.size)
      clear hb HF k0 k1
      go_wp2
      go_ret2
      rw [HE.out]
      exact ⟨rfl, HB2.out⟩
    | true =>
      have hlL : L.length + 1 = ps.length := by
        have := (fit_iff.1 hf).2
        rw [show (kd ps L).ks.length = L.length from keysOf_length L] at this
        exact this
      have HFT : Hid ((kd ps L).fit = true) := hf
      rw [hf] at HF
      clear hf
      by_cases h4 : ps.length < 4
      · have HE : Hid (splitK wrap64 z (kd ps L) = (0, 1)) := by unfold splitK; rw [Hid, if_pos (.inr (.inr h4))]
        have h4z : (ps.length : Int) < 4 := by omega
        clear hsz h4
        go_enter Try.func32, Try.ntmps32
        go_wp2_with fail
        rw [← hW]
        refine HS.mono ?_
        rintro e w1 ⟨rfl, rfl⟩
        clear hW
        go_wp2_with fail
        refine HF.mono ?_
        rintro e w2 ⟨rfl, hb⟩
        have HB2 : Hid (Below w.heap.size w w2) := HBW.out.trans (hb.mono HBW.out.size)
        obtain ⟨y0, _⟩ := (HX.out.here hb).cells
        clear hb HF k0 k1
        go_wp2
        go_ret2
        rw [HE.out]
        exact ⟨rfl, HB2.out⟩
      · have h4z : ¬ (ps.length : Int) < 4 := by omega
        have HSP : Hid (splitK wrap64 z (kd ps L) = if z - 32 < (splitF (longK wrap64 (kd ps L)) (ps.length - 3)).2 then (0, 64) else ((splitF (longK wrap64 (kd ps L)) (ps.length - 3)).1, 0)) := by
          unfold splitK
          rw [Hid, if_neg (by rintro (h | h | h); exact h hsz; (rw [HFT.out] at h; cases h); exact h4 h)]
          rfl
        have hlz : (0 : Int) < (L.length : Int) := by omega
        clear hsz
        go_enter Try.func32, Try.ntmps32
        go_wp2_with fail
        rw [← hW]
        refine HS.mono ?_
        rintro e w1 ⟨rfl, rfl⟩
        clear hW
        go_wp2_with fail
        refine HF.mono ?_
        rintro e w2 ⟨rfl, hb⟩
        have HB2 : Hid (Below w1.heap.size w1 w2) := hb
        clear hb HF k0 k1
        obtain ⟨k0, k1⟩ := (HX.out.here HB2.out).cells
        obtain ⟨e0, he0⟩ : ∃ e, L[0]? = some e := ⟨L[0]'(by omega), List.getElem?_eq_getElem _⟩
        obtain ⟨g0, off0, _, q0, hc0⟩ := (HK.out.here HB2.out).cell 0 e0 he0
        cases q0
        simp only [Nat.add_zero] at hc0
        have hok0 := HK.out.ok e0 (List.mem_of_getElem? he0)
        obtain ⟨b0, d0, p0⟩ := hok0.form
        rw [p0] at hc0
        have hsh0 : e0.k.length ≤ 2147483647 := light_key HLI.out (List.mem_of_getElem? he0)
        have HBY := refBytes_any (HKD.out.here HB2.out) HLI.out
        have HF0 : Hid ((12 : Int) + (e0.k.length : Int) = ((bytesK (firstK (kd ps L) 2) : Nat) : Int)) := by
          have e1 : bytesK (firstK (kd ps L) 2) = 2 + 4 * (ps.take 2).length + bytesL ((keysOf L).take 1) := rfl
          have e2 := bytesL_take (keysOf L) 0 e0.k (keysOf_get he0)
          have e3 : (ps.take 2).length = 2 := by rw [List.length_take]; omega
          have e4 : bytesL ((keysOf L).take 0) = 0 := rfl
          rw [Hid, e1, e3]
          have e5 : (0 : Nat) + 1 = 1 := rfl
          rw [e5, e4] at e2
          omega
        have hbl := light_bytes HLI.out
        obtain ⟨N, hN⟩ : ∃ N, N = bytesK (kd ps L) := ⟨_, rfl⟩
        have HN : Hid (N = bytesK (kd ps L)) := hN
        rw [← hN] at HBY hbl
        clear hN he0 hok0 p0
        go_wp2_with fail
        refine HBY.mono ?_
        rintro e w3 ⟨rfl, hb⟩
        have HB3 : Hid (Below w1.heap.size w1 w3) := HB2.out.trans (hb.mono HB2.out.size)
        have HLW : Hid (Below w.heap.size w w3) := HBW.out.trans (HB3.out.mono HBW.out.size)
        have HK3 : Hid (KeysAt w3.heap.size w3 (.slice (some ⟨g0, off0, none⟩) L.length c2) L) := HK.out.here HB3.out
        have HX3 : Hid (KBox w3 w.heap.size (.slice a1 ps.length c1) (.slice (some ⟨g0, off0, none⟩) L.length c2)) := HX.out.here HB3.out
        clear hb HBY HB2 HX HK k0 k1 hc0
        obtain ⟨k0, k1⟩ := HX3.out.cells
        obtain ⟨f, hff⟩ : ∃ f, f = longK wrap64 (kd ps L) := ⟨_, rfl⟩
        have HFF : Hid (f = longK wrap64 (kd ps L)) := hff
        rw [← hff] at HSP
        clear hff
        go_wp2_with fail
        go_loopw [6, 8, 9, 10] (fun a s l n wx => ∃ (i m F : Nat), i + 3 ≤ ps.length ∧ m = i + 2 ∧ n = .int .i64 (m : Int) ∧ s = .int .i64 ((splitF f i).1 : Nat) ∧ l = .int .i64 (splitF f i).2 ∧ a = .int .i64 (F : Int) ∧ F = bytesK (firstK (kd ps L) (i + 2)) ∧ wx = w3) (fun _ _ _ n _ => ps.length - (intOf n).toNat)
        case atStart => exact ⟨0, 2, _, by omega, rfl, rfl, rfl, rfl, by rw [HF0.out], rfl, rfl⟩
        case round =>
          obtain ⟨i, m, F, hi3, hm, rfl, rfl, rfl, rfl, hF, hwx⟩ := hrel
          obtain rfl := hwx.symm
          have HFB : Hid (F = bytesK (firstK (kd ps L) (i + 2))) := hF
          have HM : Hid (m = i + 2) := hm
          obtain ⟨X, hX⟩ : ∃ X, X = (splitF f i).1 := ⟨_, rfl⟩
          obtain ⟨Y, hY⟩ : ∃ Y, Y = (splitF f i).2 := ⟨_, rfl⟩
          have HXX : Hid (X = (splitF f i).1) := hX
          have HYY : Hid (Y = (splitF f i).2) := hY
          rw [← hX, ← hY]
          have hFb : F ≤ 8589934600 := by
            have h1 := first_le (kd ps L) (i + 2)
            have h2 := HN.out
            omega
          clear hX hY hF
          by_cases hlt : i + 4 ≤ ps.length
          · have hmz : (m : Int) + 2 ≤ (ps.length : Int) := by omega
            obtain ⟨j, hj⟩ : ∃ j, j = i + 1 := ⟨_, rfl⟩
            have hm1 : (m : Int) - 1 = (j : Int) := by omega
            have hjl : (j : Int) < (L.length : Int) := by omega
            have hwj : IntKind.i64.wrap (j : Int) = (j : Int) := wrapk_of _ (by omega) (by omega)
            obtain ⟨e1, he1⟩ : ∃ e, L[j]? = some e := ⟨L[j]'(by omega), List.getElem?_eq_getElem _⟩
            obtain ⟨g, off, _, q1, hcell1⟩ := HK3.out.cell j e1 he1
            cases q1
            have hok1 := HK3.out.ok e1 (List.mem_of_getElem? he1)
            obtain ⟨b1, d1, p1⟩ := hok1.form
            rw [p1] at hcell1
            have hsh1 : e1.k.length ≤ 2147483647 := light_key HLI.out (List.mem_of_getElem? he1)
            obtain ⟨O, hO⟩ : ∃ O, O = bytesK (othersK (kd ps L) (i + 2)) := ⟨_, rfl⟩
            have hbeh : F + O + e1.k.length = N := by
              have h9 := behind_is (d := kd ps L) (n := i + 2) (x := e1.k) (by omega) (by show i + 2 ≤ ps.length; omega) (by show (keysOf L)[i + 2 - 1]? = _; rw [show i + 2 - 1 = j by omega]; exact keysOf_get he1)
              have h1 := HFB.out
              have h2 := HN.out
              rw [← hO] at h9
              omega
            have hbO : 2 + (N : Int) - (F : Int) - 2 - (e1.k.length : Int) = (O : Int) := by omega
            have HFX : Hid (f (i + 2) = max (F : Int) (O : Int)) := by rw [Hid, HFF.out, long_light HLI.out, HFB.out, hO]
            have HF2 : Hid (F + 4 + 2 + e1.k.length = bytesK (firstK (kd ps L) (i + 1 + 2))) := by
              have h9 := bytes_first (d := kd ps L) (n := i + 2) (by omega) (by show i + 2 < ps.length; omega) (x := e1.k) (by show (keysOf L)[i + 2 - 1]? = _; rw [show i + 2 - 1 = j by omega]; exact keysOf_get he1)
              have h1 := HFB.out
              rw [Hid, show i + 1 + 2 = i + 2 + 1 by omega]
              omega
            have hOb : O ≤ 8589934600 := by omega
            have HLT : Hid (i + 4 ≤ ps.length) := hlt
            clear he1 hok1 p1 hO hj hm hlt hbeh
            have HGO : Hid (X = 0 ∨ max (F : Int) (O : Int) < Y → splitF f (i + 1) = (m, max (F : Int) (O : Int))) := fun h => by
              rw [splitF, ← HXX.out, ← HYY.out, HFX.out, if_pos h, HM.out]
            have HNO : Hid (¬ (X = 0 ∨ max (F : Int) (O : Int) < Y) → splitF f (i + 1) = (X, Y)) := fun h => by
              rw [splitF, ← HXX.out, ← HYY.out, HFX.out, if_neg h, HXX.out, HYY.out]
            by_cases hX0 : X = 0
            · have hXz : ((X : Int) == 0) = true := by simp [hX0]
              have HS2 : Hid _ := HGO.out (.inl hX0)
              clear hX0
              go_wp2
              exact ⟨⟨i + 1, m + 1, F + 4 + 2 + e1.k.length, by have := HLT.out; omega, by have := HM.out; omega, by go_num, by rw [HS2.out], by rw [HS2.out], by go_num, HF2.out, by first | trivial | rfl⟩, by simp [intOf]; omega⟩
            · have hXz : ((X : Int) == 0) = false := by rw [beq_eq_false_iff_ne]; omega
              by_cases hmx : max (F : Int) (O : Int) < Y
              · have HS2 : Hid _ := HGO.out (.inr hmx)
                clear hX0
                go_wp2
                exact ⟨⟨i + 1, m + 1, F + 4 + 2 + e1.k.length, by have := HLT.out; omega, by have := HM.out; omega, by go_num, by rw [HS2.out], by rw [HS2.out], by go_num, HF2.out, by first | trivial | rfl⟩, by simp [intOf]; omega⟩
              · have HS2 : Hid _ := HNO.out (by rintro (h | h); exact hX0 h; exact hmx h)
                clear hX0
                go_wp2
                exact ⟨⟨i + 1, m + 1, F + 4 + 2 + e1.k.length, by have := HLT.out; omega, by have := HM.out; omega, by go_num, by rw [HS2.out], by rw [HS2.out], by go_num, HF2.out, by first | trivial | rfl⟩, by simp [intOf]; omega⟩
          · have hmz : ¬ (m : Int) + 2 ≤ (ps.length : Int) := by omega
            have hmb : (m : Int) ≤ (ps.length : Int) := by omega
            have HI : Hid (i = ps.length - 3) := by rw [Hid]; omega
            clear hlt hm
            have HRO := refRoom_any w3 z
            rw [if_pos HSZ.out] at HRO
            go_wp2_with fail
            refine HRO.mono ?_
            rintro e w6 ⟨rfl, hw6⟩
            obtain rfl := hw6.symm
            clear HRO
            by_cases hgt : z - 32 < Y
            · have HE : Hid (splitK wrap64 z (kd ps L) = (0, 64)) := by rw [Hid, HSP.out, ← HI.out, ← HYY.out, if_pos hgt]
              go_wp2
              go_ret2
              rw [HE.out]
              exact ⟨rfl, HLW.out⟩
            · have HE : Hid (splitK wrap64 z (kd ps L) = (X, 0)) := by rw [Hid, HSP.out, ← HI.out, ← HYY.out, if_neg hgt, ← HXX.out]
              go_wp2
              go_ret2
              rw [HE.out]
              exact ⟨rfl, HLW.out⟩
  · rw [decide_eq_false hsz] at HS
    have HE : Hid (splitK wrap64 z (kd ps L) = (0, 1)) := by unfold splitK; rw [Hid, if_pos (.inl hsz)]
    clear hsz
    go_enter Try.func32, Try.ntmps32
    go_wp2_with fail
    rw [← hW]
    refine HS.mono ?_
    rintro e w1 ⟨rfl, rfl⟩
    clear hW
    go_wp2
    go_ret2
    rw [HE.out]
    exact ⟨rfl, HBW.out⟩
end Go.Proofs.Ytaehchijeinloaa
