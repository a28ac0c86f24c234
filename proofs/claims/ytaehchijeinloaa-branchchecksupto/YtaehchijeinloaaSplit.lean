/- Split: how many children stay. -/
import Derived.Test.YtaehchijeinloaaGrow
import Derived.Test.YtaehchijeinloaaSplitPure
namespace Go.Proofs.Ytaehchijeinloaa
open Go.RowKit

theorem bytes_first {d : Kd} {n : Nat} {x : Key} (h1 : 1 ≤ n) (hn : n < d.ps.length) (hx : d.ks[n - 1]? = some x) : (bytesK (firstK d (n + 1)) : Int) = (bytesK (firstK d n) : Int) + (6 + (x.length : Int)) := by
  have e : n + 1 - 1 = (n - 1) + 1 := by omega
  simp only [bytesK, firstK, e]
  rw [bytesL_take _ _ _ hx, List.length_take, List.length_take, Nat.min_eq_left (by omega), Nat.min_eq_left (by omega)]
  omega
theorem bytes_others {d : Kd} {n : Nat} {x : Key} (hn : n < d.ps.length) (hx : d.ks[n]? = some x) : (bytesK (othersK d (n + 1)) : Int) = (bytesK (othersK d n) : Int) - (6 + (x.length : Int)) := by
  simp only [bytesK, othersK]
  rw [bytesL_drop _ _ _ hx, List.length_drop, List.length_drop]
  omega
theorem kids_first {B : Nat} {w : World} {a : Option Addr} {n c : Nat} {ps : List Int} (h : IntsAt B w (.slice a n c) ps) (hn : 1 ≤ n) (hc : n ≤ c) : KidsAt B w (.agg #[.slice a 1 c, .slice none 0 0]) (ps.take 1) [] :=
  ⟨_, _, rfl, h.take 1 hn c (by omega) (Nat.le_refl _), KeysAt.nil _ _⟩

set_option maxHeartbeats 3200000 in
set_option maxRecDepth 100000 in
theorem split_any {w : World} {v : Value} {ps : List Int} {L : List Kc} {z : Int} (h : KidsAt w.heap.size w v ps L) :
    Calls Try.prog 31 #[.int .i64 z, v] w fun r w' => r = .returned (.tuple #[.int .i64 ((splitK wrap64 z (kd ps L)).1 : Nat), .int .i64 ((splitK wrap64 z (kd ps L)).2 : Nat)]) ∧ Below w.heap.size w w' := by
  obtain ⟨vp, vk, rfl, h1, h2⟩ := h.is
  obtain ⟨a1, c1, rfl⟩ := h1.form
  obtain ⟨a2, c2, rfl⟩ := h2.form
  have hs1 := h1.short
  have hs2 := h2.short
  obtain ⟨W, hW⟩ : ∃ W, W = w.alloc (.cells #[.slice a1 ps.length c1, .slice a2 L.length c2] 26) := ⟨_, rfl⟩
  have HBW : Hid (Below w.heap.size w W) := by rw [hW]; exact below_new _ _
  have HX : Hid (KBox W w.heap.size (.slice a1 ps.length c1) (.slice a2 L.length c2)) := by rw [hW]; exact KBox.new _ _ _
  have HP : Hid (IntsAt W.heap.size W (.slice a1 ps.length c1) ps) := h1.here HBW.out
  have HK : Hid (KeysAt W.heap.size W (.slice a2 L.length c2) L) := h2.here HBW.out
  have HF := fit_any (KidsAt.here ⟨_, _, rfl, h1, h2⟩ HBW.out)
  clear h h1 h2
  by_cases hz : Sized z
  · have hz32 : z - 32 ≠ 0 ∧ 480 ≤ z - 32 ∧ z ≤ 4096 := by rcases hz with rfl | rfl | rfl | rfl <;> decide
    have HRO : Hid (∀ W', Calls Try.prog 39 #[.int .i64 z] W' fun r w' => r = .returned (.int .i64 (z - 32)) ∧ w' = W') := fun W' => by
      have := roomOf_any W' z
      rw [if_pos hz] at this
      exact this
    have hzz : (z - 32 == 0) = false := by rw [beq_eq_false_iff_ne]; exact hz32.1
    cases hf : (kd ps L).fit with
    | false =>
      have HS : Hid (splitK wrap64 z (kd ps L) = (0, 1)) := by unfold splitK; rw [Hid, if_pos (.inr (.inl hf))]
      rw [hf] at HF
      clear hf hz
      go_enter Try.func31, Try.ntmps31
      go_wp2_with fail
      rw [← hW]
      clear hW
      refine (HRO.out W).mono ?_
      rintro e w1 ⟨rfl, hw1⟩
      obtain rfl := hw1.symm
      obtain ⟨x0, x1⟩ := HX.out.cells
      go_wp2_with fail
      refine HF.mono ?_
      rintro e w2 ⟨rfl, hb2⟩
      have HB2 : Hid (Below w.heap.size w w2) := HBW.out.trans (hb2.mono HBW.out.size)
      clear HF hb2 x0 x1
      go_wp2
      go_ret2
      rw [HS.out]
      exact ⟨rfl, HB2.out⟩
    | true =>
      have hlL : L.length + 1 = ps.length := by
        have := (fit_iff.1 hf).2
        rw [show (kd ps L).ks.length = L.length from keysOf_length L] at this
        exact this
      rw [hf] at HF
      by_cases h4 : ps.length < 4
      · have HS : Hid (splitK wrap64 z (kd ps L) = (0, 1)) := by unfold splitK; rw [Hid, if_pos (.inr (.inr h4))]
        have h4z : (ps.length : Int) < 4 := by omega
        clear hf hz h4
        go_enter Try.func31, Try.ntmps31
        go_wp2_with fail
        rw [← hW]
        clear hW
        refine (HRO.out W).mono ?_
        rintro e w1 ⟨rfl, hw1⟩
        obtain rfl := hw1.symm
        obtain ⟨x0, x1⟩ := HX.out.cells
        go_wp2_with fail
        refine HF.mono ?_
        rintro e w2 ⟨rfl, hb2⟩
        have HB2 : Hid (Below w.heap.size w w2) := HBW.out.trans (hb2.mono HBW.out.size)
        obtain ⟨y0, _⟩ := (HX.out.here hb2).cells
        clear HF hb2 x0 x1
        go_wp2
        go_ret2
        rw [HS.out]
        exact ⟨rfl, HB2.out⟩
      · have h4z : ¬ (ps.length : Int) < 4 := by omega
        have hks : ∀ n : Nat, n < L.length → ∃ e, L[n]? = some e := fun n hn => ⟨L[n], List.getElem?_eq_getElem hn⟩
        obtain ⟨g1, o1, e1⟩ : ∃ g off, a1 = some ⟨g, off, none⟩ := by
          obtain ⟨x, hx⟩ : ∃ x, ps[0]? = some x := ⟨ps[0]'(by omega), List.getElem?_eq_getElem _⟩
          obtain ⟨g, off, c, e, _⟩ := HP.out.cell 0 x hx
          cases e
          exact ⟨g, off, rfl⟩
        obtain ⟨g2, o2, e2⟩ : ∃ g off, a2 = some ⟨g, off, none⟩ := by
          obtain ⟨x, hx⟩ := hks 0 (by omega)
          obtain ⟨g, off, c, e, _⟩ := HK.out.cell 0 x hx
          cases e
          exact ⟨g, off, rfl⟩
        subst e1
        subst e2
        have hc1 : ps.length ≤ c1 := by
          obtain ⟨a, c, e, h, _⟩ := HP.out.row.is
          simp only [List.length_map] at e h
          cases e; exact h
        have hc2 : L.length ≤ c2 := by
          obtain ⟨a, c, e, h, _⟩ := HK.out.row.is
          simp only [List.length_map] at e h
          cases e; exact h
        have HSP : Hid (splitK wrap64 z (kd ps L) = if z - 32 < (splitF (longK wrap64 (kd ps L)) (ps.length - 3)).2 then (0, 64) else ((splitF (longK wrap64 (kd ps L)) (ps.length - 3)).1, 0)) := by
          unfold splitK
          rw [Hid, if_neg (by rintro (h | h | h); exact h hz; (rw [hf] at h; cases h); exact h4 h)]
          rfl
        have hc1z : (1 : Int) ≤ (c1 : Int) := by omega
        have hp1z : (1 : Int) ≤ (ps.length : Int) := by omega
        have hl1z : (1 : Int) ≤ (L.length : Int) := by omega
        have hn1 : c1 ≠ 1 := by omega
        have hn2 : c2 ≠ 1 := by omega
        clear hks
        go_enter Try.func31, Try.ntmps31
        go_wp2_with fail
        rw [← hW]
        clear hW
        refine (HRO.out W).mono ?_
        rintro e w1 ⟨rfl, hw1⟩
        obtain rfl := hw1.symm
        obtain ⟨x0, x1⟩ := HX.out.cells
        go_wp2_with fail
        refine HF.mono ?_
        rintro e w2 ⟨rfl, hb2⟩
        have HB2 : Hid (Below W.heap.size W w2) := hb2
        obtain ⟨y0, y1⟩ := (HX.out.here hb2).cells
        have HBF := bytes_any (kids_first (HP.out.here hb2) (by omega) hc1)
        clear HF hb2 x0 x1
        go_wp2_with fail
        refine HBF.mono ?_
        rintro e w3 ⟨rfl, hb3⟩
        have HB3 : Hid (Below W.heap.size W w3) := HB2.out.trans (hb3.mono HB2.out.size)
        obtain ⟨x0, x1⟩ := (HX.out.here HB3.out).cells
        clear HBF hb3 y0 y1
        have HBO : Hid (∀ W', Below W.heap.size W W' → Calls Try.prog 28 #[.agg #[.slice (some ⟨g1, o1 + 1, none⟩) (ps.length - 1) (c1 - 1), .slice (some ⟨g2, o2 + 1, none⟩) (L.length - 1) (c2 - 1)]] W' fun r w' => r = .returned (.int .i64 (wrap64 (bytesK (othersK (kd ps L) 1)))) ∧ Below W.heap.size W w') := fun W' hb => by
          have := bytes_any (w := W') (v := .agg #[.slice (some ⟨g1, o1 + 1, none⟩) (ps.length - 1) (c1 - 1), .slice (some ⟨g2, o2 + 1, none⟩) (L.length - 1) (c2 - 1)]) (ps := ps.drop 1) (L := L.drop 1) ⟨_, _, rfl, (HP.out.here hb).drop 1 (by omega), (HK.out.here hb).drop 1 (by omega)⟩
          rw [show kd (ps.drop 1) (L.drop 1) = othersK (kd ps L) 1 by simp [kd, othersK, keysOf]] at this
          exact this.mono fun r w' ⟨h1, h2⟩ => ⟨h1, hb.trans (h2.mono hb.size)⟩
        go_upto_region 5 with fail
        go_cut [9] (fun s9 wx => s9 = .int .i64 (wrap64 (bytesK (othersK (kd ps L) 1))) ∧ Below W.heap.size W wx)
        case first =>
          go_region_with (
            go_at_call 28
            refine (HBO.out _ (by first | exact HB3.out | exact HB3.out.drew)).mono ?_
            rintro e w4 ⟨rfl, hb4⟩
            have HB4 : Hid (Below W.heap.size W w4) := hb4
            clear hb4)
          all_goals
            go_wp2_with fail
            go_meet
            exact ⟨rfl, HB4.out⟩
        case rest =>
          obtain ⟨rfl, hb4⟩ := hcut
          obtain ⟨W5, hW5⟩ : ∃ W5, W5 = wc := ⟨_, rfl⟩
          rw [← hW5] at hb4
          rw [← hW5]
          have HB5 : Hid (Below W.heap.size W W5) := hb4
          obtain ⟨f, hff⟩ : ∃ f, f = longK wrap64 (kd ps L) := ⟨_, rfl⟩
          have HFF : Hid (f = longK wrap64 (kd ps L)) := hff
          rw [← hff] at HSP
          obtain ⟨F1, hF1⟩ : ∃ F1, F1 = wrap64 (bytesK (kd (ps.take 1) [])) := ⟨_, rfl⟩
          obtain ⟨O1, hO1⟩ : ∃ O1, O1 = wrap64 (bytesK (othersK (kd ps L) 1)) := ⟨_, rfl⟩
          rw [← hF1, ← hO1]
          have HF1 : Hid (F1 = wrap64 (bytesK (firstK (kd ps L) 1))) := by rw [Hid, hF1]; simp [kd, firstK, keysOf]
          have HO1 : Hid (O1 = wrap64 (bytesK (othersK (kd ps L) 1))) := hO1
          obtain ⟨z0, z1⟩ := (HX.out.here hb4).cells
          clear hb4 hW5 hff hF1 hO1 x0 x1 HBO hc1z hp1z hl1z hn1 hn2
          go_wp2_with fail
          go_loopw [6, 7, 8, 9, 10] (fun s l a o n wx => ∃ (i m : Nat) (F O : Int), i + 3 ≤ ps.length ∧ m = i + 2 ∧ n = .int .i64 (m : Int) ∧ s = .int .i64 ((splitF f i).1 : Nat) ∧ l = .int .i64 (splitF f i).2 ∧ a = .int .i64 F ∧ o = .int .i64 O ∧ F = wrap64 (bytesK (firstK (kd ps L) (i + 1))) ∧ O = wrap64 (bytesK (othersK (kd ps L) (i + 1))) ∧ wx = W5) (fun _ _ _ _ n _ => ps.length - (intOf n).toNat)
          case atStart => exact ⟨0, 2, F1, O1, by omega, rfl, rfl, rfl, rfl, rfl, rfl, HF1.out, HO1.out, rfl⟩
          case round =>
            obtain ⟨i, m, F, O, hi3, hm, rfl, rfl, rfl, rfl, rfl, hF, hO, hwx⟩ := hrel
            obtain rfl := hwx.symm
            have HF : Hid _ := hF
            have HO : Hid _ := hO
            have HM : Hid (m = i + 2) := hm
            obtain ⟨X, hX⟩ : ∃ X, X = (splitF f i).1 := ⟨_, rfl⟩
            obtain ⟨Y, hY⟩ : ∃ Y, Y = (splitF f i).2 := ⟨_, rfl⟩
            have HXX : Hid (X = (splitF f i).1) := hX
            have HYY : Hid (Y = (splitF f i).2) := hY
            rw [← hX, ← hY]
            clear hX hY hF hO
            by_cases hlt : i + 4 ≤ ps.length
            · have hmz : (m : Int) ≤ (ps.length : Int) - 2 := by omega
              have hm2 : (m : Int) - 2 = (i : Int) := by omega
              obtain ⟨j, hj⟩ : ∃ j, j = i + 1 := ⟨_, rfl⟩
              have hm1 : (m : Int) - 1 = (j : Int) := by omega
              have hil : (i : Int) < (L.length : Int) := by omega
              have hjl : (j : Int) < (L.length : Int) := by omega
              obtain ⟨e0, he0⟩ : ∃ e, L[i]? = some e := ⟨L[i]'(by omega), List.getElem?_eq_getElem _⟩
              obtain ⟨e1, he1⟩ : ∃ e, L[j]? = some e := ⟨L[j]'(by omega), List.getElem?_eq_getElem _⟩
              have hK5 := HK.out.here HB5.out
              obtain ⟨g, off, _, q0, hcell0⟩ := hK5.cell i e0 he0
              cases q0
              obtain ⟨g, off, _, q1, hcell1⟩ := hK5.cell j e1 he1
              cases q1
              have hok0 := hK5.ok e0 (List.mem_of_getElem? he0)
              have hok1 := hK5.ok e1 (List.mem_of_getElem? he1)
              have hsh0 := hok0.short
              have hsh1 := hok1.short
              obtain ⟨b0, d0, p0⟩ := hok0.form
              obtain ⟨b1, d1, p1⟩ := hok1.form
              rw [p0] at hcell0
              rw [p1] at hcell1
              obtain ⟨F2, hF2⟩ : ∃ F2, F2 = wrap64 (bytesK (firstK (kd ps L) (i + 2))) := ⟨_, rfl⟩
              obtain ⟨O2, hO2⟩ : ∃ O2, O2 = wrap64 (bytesK (othersK (kd ps L) (i + 2))) := ⟨_, rfl⟩
              have hFs : wrap64 (F + (6 + (e0.k.length : Int))) = F2 := by
                rw [hF2, HF.out, wrap_add, bytes_first (n := i + 1) (by omega) (by show i + 1 < ps.length; omega) (x := e0.k) (by exact keysOf_get he0)]
              have hOs : wrap64 (O - (6 + (e1.k.length : Int))) = O2 := by
                rw [hO2, HO.out, wrap_sub, bytes_others (n := i + 1) (by show i + 1 < ps.length; omega) (x := e1.k) (by rw [← hj]; exact keysOf_get he1)]
              have HFX : Hid (f (i + 2) = max F2 O2) := by rw [Hid, HFF.out, hF2, hO2]; rfl
              have HF2 : Hid (F2 = wrap64 (bytesK (firstK (kd ps L) (i + 1 + 1)))) := hF2
              have HO2 : Hid (O2 = wrap64 (bytesK (othersK (kd ps L) (i + 1 + 1)))) := hO2
              have HLT : Hid (i + 4 ≤ ps.length) := hlt
              have HML : Hid (m = i + 2 ∧ m < ps.length) := ⟨hm, by omega⟩
              clear hF2 hO2 he0 he1 hok0 hok1 p0 p1 hK5 hj hm hlt
              have HGO : Hid (X = 0 ∨ max F2 O2 < Y → splitF f (i + 1) = (m, max F2 O2)) := fun h => by
                rw [splitF, ← HXX.out, ← HYY.out, HFX.out, if_pos h, HM.out]
              have HNO : Hid (¬ (X = 0 ∨ max F2 O2 < Y) → splitF f (i + 1) = (X, Y)) := fun h => by
                rw [splitF, ← HXX.out, ← HYY.out, HFX.out, if_neg h, HXX.out, HYY.out]
              by_cases hX0 : X = 0
              · have hXz : ((X : Int) == 0) = true := by simp [hX0]
                have HST := HGO.out (.inl hX0)
                clear hX0
                have HS2 : Hid _ := HST
                clear HST
                go_wp2
                exact ⟨⟨i + 1, m + 1, F2, O2, by have := HLT.out; omega, by have := HM.out; omega, by go_num, by rw [HS2.out], by first | rw [HS2.out] | (rw [HS2.out, ← hOs]), by first | rfl | rw [hFs], by first | rfl | rw [hOs], HF2.out, HO2.out, by first | trivial | rfl⟩, by have := HML.out; simp [intOf]; omega⟩
              · have hXz : ((X : Int) == 0) = false := by rw [beq_eq_false_iff_ne]; omega
                by_cases hmx : max F2 O2 < Y
                · have HS2 : Hid _ := HGO.out (.inr hmx)
                  clear hX0
                  go_wp2
                  exact ⟨⟨i + 1, m + 1, F2, O2, by have := HLT.out; omega, by have := HM.out; omega, by go_num, by rw [HS2.out], by first | rw [HS2.out] | (rw [HS2.out, ← hOs]), by first | rfl | rw [hFs], by first | rfl | rw [hOs], HF2.out, HO2.out, by first | trivial | rfl⟩, by have := HML.out; simp [intOf]; omega⟩
                · have HS2 : Hid _ := HNO.out (by rintro (h | h); exact hX0 h; exact hmx h)
                  clear hX0
                  go_wp2
                  exact ⟨⟨i + 1, m + 1, F2, O2, by have := HLT.out; omega, by have := HM.out; omega, by go_num, by rw [HS2.out], by first | rw [HS2.out] | (rw [HS2.out, ← hOs]), by first | rfl | rw [hFs], by first | rfl | rw [hOs], HF2.out, HO2.out, by first | trivial | rfl⟩, by have := HML.out; simp [intOf]; omega⟩
            · have hmz : ¬ (m : Int) ≤ (ps.length : Int) - 2 := by omega
              have HI : Hid (i = ps.length - 3) := by rw [Hid]; omega
              clear hlt hm
              go_wp2_with fail
              refine (HRO.out W5).mono ?_
              rintro e w6 ⟨rfl, hw6⟩
              obtain rfl := hw6.symm
              by_cases hgt : z - 32 < Y
              · have HE : Hid (splitK wrap64 z (kd ps L) = (0, 64)) := by rw [Hid, HSP.out, ← HI.out, ← HYY.out, if_pos hgt]
                go_wp2
                go_ret2
                rw [HE.out]
                exact ⟨rfl, HBW.out.trans (HB5.out.mono HBW.out.size)⟩
              · have HE : Hid (splitK wrap64 z (kd ps L) = (X, 0)) := by rw [Hid, HSP.out, ← HI.out, ← HYY.out, if_neg hgt, ← HXX.out]
                go_wp2
                go_ret2
                rw [HE.out]
                exact ⟨rfl, HBW.out.trans (HB5.out.mono HBW.out.size)⟩
  · have HS : Hid (splitK wrap64 z (kd ps L) = (0, 1)) := by unfold splitK; rw [Hid, if_pos (.inl hz)]
    have HR := roomOf_any W z
    rw [if_neg hz] at HR
    go_enter Try.func31, Try.ntmps31
    go_wp2_with fail
    rw [← hW]
    clear hW
    refine HR.mono ?_
    rintro e w1 ⟨rfl, hw1⟩
    obtain rfl := hw1.symm
    clear HR
    go_wp2
    go_ret2
    rw [HS.out]
    exact ⟨rfl, HBW.out⟩
end Go.Proofs.Ytaehchijeinloaa
