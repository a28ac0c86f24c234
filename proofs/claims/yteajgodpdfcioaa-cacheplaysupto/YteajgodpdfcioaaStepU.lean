/- step: its owner writes over what was put in last: the walk. -/
import Derived.Test.YteajgodpdfcioaaStepT
namespace Go.Proofs.Yteajgodpdfcioaa
open Go.RowKit Go.Maps

set_option maxHeartbeats 1600000 in
set_option maxRecDepth 100000 in
theorem step_turn {B U n : Nat} {w : World} {W : Nat} {cs ls rs : Nat → Nat} {SC SL : Nat → Ca Value} {SR : Nat → Ca Int} {vc vl vr vo vw : Value} {O N : List (Value × List Int)} (h : Inv B U n w W cs ls rs SC SL SR vc vl vr vo vw O N) (hn : 0 < n) {o m x : Int} (ho : (Lit.int .i64 o).wf = true) (hm : (Lit.int .i64 m).wf = true) (hU : U + 9 < 4611686018427387904) :
    Calls Try.prog 8 #[ptr W, .agg #[.int .i64 8, .int .i64 o, .int .i64 m, .int .i64 x]] w fun r w' => r = .returned (.bool true) ∧ ∃ SC' SL' SR', Inv B (U + 9) n w' W cs ls rs SC' SL' SR' vc vl vr vo vw O N ∧ Below B w w' := by
  have HB : Hid (Below w.heap.size w (w.alloc (.cells #[.int .i64 8, .int .i64 o, .int .i64 m, .int .i64 x] 33))) := below_new _ _
  have hi := h.below HB.out
  have HBW : Hid (B ≤ w.heap.size) := h.ws.hB
  have hnn : n ≤ 30 := h.ws.few
  obtain ⟨gc, cc, rfl, c0, _⟩ := hi.ws.cells_c hn
  obtain ⟨gl, cl, rfl, _, _⟩ := hi.ws.cells_l hn
  obtain ⟨gr, cr, rfl, _, _⟩ := hi.ws.cells_r hn
  have HI : Hid (Inv B U n (w.alloc (.cells #[.int .i64 8, .int .i64 o, .int .i64 m, .int .i64 x] 33)) W cs ls rs SC SL SR (.slice (some ⟨gc, 0, none⟩) n cc) (.slice (some ⟨gl, 0, none⟩) n cl) (.slice (some ⟨gr, 0, none⟩) n cr) vo vw O N) := hi
  have hnz : ((n : Int) == 0) = false := by rw [beq_eq_false_iff_ne]; omega
  have HN : Hid (0 < n ∧ n ≤ 30) := ⟨hn, hnn⟩
  have HO : Hid ((Lit.int .i64 o).wf = true ∧ (Lit.int .i64 m).wf = true) := ⟨ho, hm⟩
  clear h hn ho hm hi
  go_enter Try.func8, Try.ntmps8
  go_wp2_with fail
  go_quiet ((go_at_call 11; exact Calls.quiet_of_same (pick_any _ o n HO.out.1 HN.out.1 (by have := HN.out.2; omega))))
  have HOPw1 : Hid (((w.alloc (.cells #[.int .i64 8, .int .i64 o, .int .i64 m, .int .i64 x] 33)).drewN nq).heap[w.heap.size]? = some (.cells #[.int .i64 8, .int .i64 o, .int .i64 m, .int .i64 x] 33 (0, 0))) := heap_alloc_last w _
  have HID : Hid (Inv B U n ((w.alloc (.cells #[.int .i64 8, .int .i64 o, .int .i64 m, .int .i64 x] 33)).drewN nq) W cs ls rs SC SL SR (.slice (some ⟨gc, 0, none⟩) n cc) (.slice (some ⟨gl, 0, none⟩) n cl) (.slice (some ⟨gr, 0, none⟩) n cr) vo vw O N) := HI.out.below (below_draws (Below.refl _ _) nq)
  have HBD : Hid (Below B w ((w.alloc (.cells #[.int .i64 8, .int .i64 o, .int .i64 m, .int .i64 x] 33)).drewN nq)) := below_draws (HB.out.mono HBW.out) nq
  have HP : Hid (pickK o n < n) := pickK_lt _ _ HN.out.1
  generalize (w.alloc (.cells #[.int .i64 8, .int .i64 o, .int .i64 m, .int .i64 x] 33)).drewN nq = w1 at *
  generalize pickK o n = i at *
  generalize w.heap.size = b at *
  clear HI HB c0 hnz
  have hiz : (i : Int) < (n : Int) := by have := HP.out; omega
  have hnz : (n : Int) ≤ 30 := by omega
  have HAC : Hid ((SC i).has m = (SR i).has m) := (HID.out.ac i HP.out).has ri_fair m
  have HAL : Hid ((SL i).has m = (SR i).has m) := (HID.out.al i HP.out).has (lk_fair _) m
  have p0 : w1.cell? ⟨b, 0, none⟩ = some (.int .i64 8) := by rw [row_cell HOPw1.out]; rfl
  have HWD : Hid (Ws B (U) n w1.drew W cs ls rs SC SL SR (.slice (some ⟨gc, 0, none⟩) n cc) (.slice (some ⟨gl, 0, none⟩) n cl) (.slice (some ⟨gr, 0, none⟩) n cr) vo vw) := HID.out.ws.below (Below.refl _ _).drew
  obtain ⟨p2, p3⟩ := op_cells HOPw1.out
  obtain ⟨_, _, e1, c0, c1⟩ := (HID.out.ws).cells_l HP.out
  cases e1
  have H1 := HWD.out.call_l HP.out fun own k => Li.get_any k HO.out.2 (by omega)
  rw [HAL.out] at H1
  have HC1 : Hid (Calls Try.prog 23 #[ptr (ls i), .int .i64 m] w1.drew fun r w' => r = .returned (.tuple #[(SL i).tellsL m, .bool ((SR i).has m)]) ∧ Hid (After B (U + 1) n w1.drew W cs ls rs SC (at_ SL i ((SL i).get m)) SR (.slice (some ⟨gc, 0, none⟩) n cc) (.slice (some ⟨gl, 0, none⟩) n cl) (.slice (some ⟨gr, 0, none⟩) n cr) vo vw w')) := H1
  clear H1
  go_wp2_with fail
  go_region_held_law (fun W' => W'.cell? ⟨W, 1, none⟩ = some (.slice (some ⟨gl, 0, none⟩) n cl) ∧ W'.cell? ⟨gl, i, none⟩ = some (ptr (ls i)) ∧ W'.cell? ⟨b, 2, none⟩ = some (.int .i64 m)) (first | (refine ⟨?_, ?_, ?_⟩ <;> with_reducible assumption) | (go_keep; done))
    (first
      | (go_at_call 23; refine Calls.mono HC1.out ?_
         rintro r w2 ⟨rfl, hw2⟩
         obtain ⟨d2, d3⟩ := op_cells (op_moves hw2.out.2 (show w1.drew.heap[b]? = _ from HOPw1.out))
         obtain ⟨_, _, e1, d0, d1⟩ := hw2.out.1.cells_l HP.out
         cases e1))
  clear HC1 c0 c1 p2 p3 d0 d1 d2 d3
  have HOPw2 : Hid (w2.heap[b]? = some (.cells #[.int .i64 8, .int .i64 o, .int .i64 m, .int .i64 x] 33 (0, 0))) := op_moves hw2.out.2 HOPw1.out
  have HMw2 : Hid (Moves B w1 w2) := (Moves.below (Below.refl _ _).drew (HID.out.ws).hB).trans hw2.out.2
  have HWw2 : Hid (Ws B (U + 1) n w2 W cs ls rs SC (at_ SL i ((SL i).get m)) SR (.slice (some ⟨gc, 0, none⟩) n cc) (.slice (some ⟨gl, 0, none⟩) n cl) (.slice (some ⟨gr, 0, none⟩) n cr) vo vw) := hw2.out.1
  clear hw2 HWD
  clear p0
  have HWD : Hid (Ws B (U + 1) n w2.drew W cs ls rs SC (at_ SL i ((SL i).get m)) SR (.slice (some ⟨gc, 0, none⟩) n cc) (.slice (some ⟨gl, 0, none⟩) n cl) (.slice (some ⟨gr, 0, none⟩) n cr) vo vw) := HWw2.out.below (Below.refl _ _).drew
  obtain ⟨p2, p3⟩ := op_cells HOPw2.out
  obtain ⟨_, _, e1, c0, c1⟩ := (HWw2.out).cells_c HP.out
  cases e1
  have H1 := HWD.out.call_c HP.out fun own k => get_any k HO.out.2 (by omega)
  rw [HAC.out, ri_tells (HID.out.ac i HP.out) m] at H1
  have HC1 : Hid (Calls Try.prog 13 #[ptr (cs i), .int .i64 m] w2.drew fun r w' => r = .returned (.tuple #[.int .i64 (told m (SR i).L), .bool ((SR i).has m)]) ∧ Hid (After B (U + 1 + 1) n w2.drew W cs ls rs (at_ SC i ((SC i).get m)) (at_ SL i ((SL i).get m)) SR (.slice (some ⟨gc, 0, none⟩) n cc) (.slice (some ⟨gl, 0, none⟩) n cl) (.slice (some ⟨gr, 0, none⟩) n cr) vo vw w')) := H1
  clear H1
  go_wp2_with fail
  go_region_held_law (fun W' => W'.cell? ⟨W, 0, none⟩ = some (.slice (some ⟨gc, 0, none⟩) n cc) ∧ W'.cell? ⟨gc, i, none⟩ = some (ptr (cs i)) ∧ W'.cell? ⟨b, 2, none⟩ = some (.int .i64 m)) (first | (refine ⟨?_, ?_, ?_⟩ <;> with_reducible assumption) | (go_keep; done))
    (first
      | (go_at_call 13; refine Calls.mono HC1.out ?_
         rintro r w3 ⟨rfl, hw3⟩
         obtain ⟨d2, d3⟩ := op_cells (op_moves hw3.out.2 (show w2.drew.heap[b]? = _ from HOPw2.out))
         obtain ⟨_, _, e1, d0, d1⟩ := hw3.out.1.cells_c HP.out
         cases e1))
  clear HC1 c0 c1 p2 p3 d0 d1 d2 d3
  have HOPw3 : Hid (w3.heap[b]? = some (.cells #[.int .i64 8, .int .i64 o, .int .i64 m, .int .i64 x] 33 (0, 0))) := op_moves hw3.out.2 HOPw2.out
  have HMw3 : Hid (Moves B w2 w3) := (Moves.below (Below.refl _ _).drew (HWw2.out).hB).trans hw3.out.2
  have HWw3 : Hid (Ws B (U + 1 + 1) n w3 W cs ls rs (at_ SC i ((SC i).get m)) (at_ SL i ((SL i).get m)) SR (.slice (some ⟨gc, 0, none⟩) n cc) (.slice (some ⟨gl, 0, none⟩) n cl) (.slice (some ⟨gr, 0, none⟩) n cr) vo vw) := hw3.out.1
  clear hw3 HWD
  rcases lk_find (HID.out.al i HP.out) m with ⟨hhas, htl⟩ | ⟨u, g, hf, hhas, htl, hg⟩
  · rw [hhas, htl]
    have HRH : Hid ((SR i).has m = false) := hhas
    clear hhas htl
    have HWD : Hid (Ws B (U + 1 + 1) n w3.drew W cs ls rs (at_ SC i ((SC i).get m)) (at_ SL i ((SL i).get m)) SR (.slice (some ⟨gc, 0, none⟩) n cc) (.slice (some ⟨gl, 0, none⟩) n cl) (.slice (some ⟨gr, 0, none⟩) n cr) vo vw) := HWw3.out.below (Below.refl _ _).drew
    obtain ⟨p2, p3⟩ := op_cells HOPw3.out
    obtain ⟨_, _, e1, c0, c1⟩ := (HWw3.out).cells_r HP.out
    cases e1
    have H1 := HWD.out.call_r HP.out fun own k => refGet_any k m (by omega)
    rw [HRH.out] at H1
    have HC1 : Hid (Calls Try.prog 24 #[ptr (rs i), .int .i64 m] w3.drew fun r w' => r = .returned (.tuple #[.int .i64 (told m (SR i).L), .bool false]) ∧ Hid (After B (U + 1 + 1 + 1) n w3.drew W cs ls rs (at_ SC i ((SC i).get m)) (at_ SL i ((SL i).get m)) (at_ SR i ((SR i).get m)) (.slice (some ⟨gc, 0, none⟩) n cc) (.slice (some ⟨gl, 0, none⟩) n cl) (.slice (some ⟨gr, 0, none⟩) n cr) vo vw w')) := H1
    clear H1
    go_wp2_with fail
    go_region_held_law (fun W' => W'.cell? ⟨W, 2, none⟩ = some (.slice (some ⟨gr, 0, none⟩) n cr) ∧ W'.cell? ⟨gr, i, none⟩ = some (ptr (rs i)) ∧ W'.cell? ⟨b, 2, none⟩ = some (.int .i64 m)) (first | (refine ⟨?_, ?_, ?_⟩ <;> with_reducible assumption) | (go_keep; done))
      (first
        | (go_at_call 24; refine Calls.mono HC1.out ?_
           rintro r w4 ⟨rfl, hw4⟩
           obtain ⟨d2, d3⟩ := op_cells (op_moves hw4.out.2 (show w3.drew.heap[b]? = _ from HOPw3.out))
           obtain ⟨_, _, e1, d0, d1⟩ := hw4.out.1.cells_r HP.out
           cases e1))
    clear HC1 c0 c1 p2 p3 d0 d1 d2 d3
    have HOPw4 : Hid (w4.heap[b]? = some (.cells #[.int .i64 8, .int .i64 o, .int .i64 m, .int .i64 x] 33 (0, 0))) := op_moves hw4.out.2 HOPw3.out
    have HMw4 : Hid (Moves B w3 w4) := (Moves.below (Below.refl _ _).drew (HWw3.out).hB).trans hw4.out.2
    have HWw4 : Hid (Ws B (U + 1 + 1 + 1) n w4 W cs ls rs (at_ SC i ((SC i).get m)) (at_ SL i ((SL i).get m)) (at_ SR i ((SR i).get m)) (.slice (some ⟨gc, 0, none⟩) n cc) (.slice (some ⟨gl, 0, none⟩) n cl) (.slice (some ⟨gr, 0, none⟩) n cr) vo vw) := hw4.out.1
    clear hw4 HWD
    go_wp2_with fail
    go_ret
    have HM : Hid (Moves B w1 w4) := (HMw2.out.trans HMw3.out).trans HMw4.out
    exact ⟨rfl, _, _, _, (HID.out.less HP.out ⟨HWw4.out, HM.out⟩ ((HID.out.ac _ HP.out).get ri_fair m) ((HID.out.al _ HP.out).get (lk_fair _) m) get_from).mono (by omega), HBD.out.trans HM.out.low⟩
  · obtain ⟨t, ht⟩ := has_ex (m := m) (s := SL i) (HAL.out.trans hhas)
    have htx : t.x = .slice (some ⟨g, 0, none⟩) 1 1 := (tellsL_of ht).symm.trans htl
    have HTX : Hid (findT m ((SL i).get m).L = some t ∧ t.x = .slice (some ⟨g, 0, none⟩) 1 1) := ⟨find_get ht, htx⟩
    rw [hhas, htl]
    have HG : Hid (w1.heap[g]? = some (.cells #[.int .i64 u.x] 3 (0, 0))) := hg
    have HRH : Hid ((SR i).has m = true) := hhas
    clear hhas htl ht htx hf hg
    have HWD : Hid (Ws B (U + 1 + 1) n w3.drew W cs ls rs (at_ SC i ((SC i).get m)) (at_ SL i ((SL i).get m)) SR (.slice (some ⟨gc, 0, none⟩) n cc) (.slice (some ⟨gl, 0, none⟩) n cl) (.slice (some ⟨gr, 0, none⟩) n cr) vo vw) := HWw3.out.below (Below.refl _ _).drew
    obtain ⟨p2, p3⟩ := op_cells HOPw3.out
    obtain ⟨_, _, e1, c0, c1⟩ := (HWw3.out).cells_r HP.out
    cases e1
    have H1 := HWD.out.call_r HP.out fun own k => refGet_any k m (by omega)
    rw [HRH.out] at H1
    have HC1 : Hid (Calls Try.prog 24 #[ptr (rs i), .int .i64 m] w3.drew fun r w' => r = .returned (.tuple #[.int .i64 (told m (SR i).L), .bool true]) ∧ Hid (After B (U + 1 + 1 + 1) n w3.drew W cs ls rs (at_ SC i ((SC i).get m)) (at_ SL i ((SL i).get m)) (at_ SR i ((SR i).get m)) (.slice (some ⟨gc, 0, none⟩) n cc) (.slice (some ⟨gl, 0, none⟩) n cl) (.slice (some ⟨gr, 0, none⟩) n cr) vo vw w')) := H1
    clear H1
    go_wp2_with fail
    go_region_held_law (fun W' => W'.cell? ⟨W, 2, none⟩ = some (.slice (some ⟨gr, 0, none⟩) n cr) ∧ W'.cell? ⟨gr, i, none⟩ = some (ptr (rs i)) ∧ W'.cell? ⟨b, 2, none⟩ = some (.int .i64 m)) (first | (refine ⟨?_, ?_, ?_⟩ <;> with_reducible assumption) | (go_keep; done))
      (first
        | (go_at_call 24; refine Calls.mono HC1.out ?_
           rintro r w4 ⟨rfl, hw4⟩
           obtain ⟨d2, d3⟩ := op_cells (op_moves hw4.out.2 (show w3.drew.heap[b]? = _ from HOPw3.out))
           obtain ⟨_, _, e1, d0, d1⟩ := hw4.out.1.cells_r HP.out
           cases e1))
    clear HC1 c0 c1 p2 p3 d0 d1 d2 d3
    have HOPw4 : Hid (w4.heap[b]? = some (.cells #[.int .i64 8, .int .i64 o, .int .i64 m, .int .i64 x] 33 (0, 0))) := op_moves hw4.out.2 HOPw3.out
    have HMw4 : Hid (Moves B w3 w4) := (Moves.below (Below.refl _ _).drew (HWw3.out).hB).trans hw4.out.2
    have HWw4 : Hid (Ws B (U + 1 + 1 + 1) n w4 W cs ls rs (at_ SC i ((SC i).get m)) (at_ SL i ((SL i).get m)) (at_ SR i ((SR i).get m)) (.slice (some ⟨gc, 0, none⟩) n cc) (.slice (some ⟨gl, 0, none⟩) n cl) (.slice (some ⟨gr, 0, none⟩) n cr) vo vw) := hw4.out.1
    clear hw4 HWD
    have HM4 : Hid (Moves B w1 w4) := (HMw2.out.trans HMw3.out).trans HMw4.out
    have hg4 := HM4.out.is g _ _ _ (by decide) (by decide) (by decide) (by decide) (by decide) (by decide) HG.out
    have y0 : w4.cell? ⟨g, 0, none⟩ = some (.int .i64 u.x) := by rw [row_cell hg4]; rfl
    have yf : w4.frozen? ⟨g, 0, none⟩ = false := row_frozen hg4 _
    obtain ⟨p2, p3⟩ := op_cells HOPw4.out
    have hI4 := HID.out.less HP.out ⟨HWw4.out, HM4.out⟩ ((HID.out.ac _ HP.out).get ri_fair m) ((HID.out.al _ HP.out).get (lk_fair _) m) get_from
    obtain ⟨hT, hTb⟩ := hI4.turned (m := m) (x := x) HP.out (by rw [at_same]; exact HTX.out.1) HTX.out.2 hg4
    have HT : Hid (Mid B (U + 1 + 1 + 1) n (w4.setCell ⟨g, 0, none⟩ (.int .i64 x)) W cs ls rs (at_ SC i ((SC i).get m)) (at_ SL i ((SL i).get m)) (at_ SR i ((SR i).get m)) (.slice (some ⟨gc, 0, none⟩) n cc) (.slice (some ⟨gl, 0, none⟩) n cl) (.slice (some ⟨gr, 0, none⟩) n cr) vo vw O N i m x g) := hT
    have HBD5 : Hid (Below B w (w4.setCell ⟨g, 0, none⟩ (.int .i64 x))) := (HBD.out.trans HM4.out.low).trans hTb
    have HOPw5 : Hid ((w4.setCell ⟨g, 0, none⟩ (.int .i64 x)).heap[b]? = some (.cells #[.int .i64 8, .int .i64 o, .int .i64 m, .int .i64 x] 33 (0, 0))) := by
      show _ = _
      rw [set_far0 _ (fun e => by rw [← e, HOPw4.out] at hg4; simp at hg4)]
      exact HOPw4.out
    clear hI4 hT hTb hg4 HWw2 HWw3 HWw4 HMw2 HMw3 HMw4 HOPw1 HOPw2 HOPw3 HM4 HG HTX HID HAC HAL HBD HRH
    go_wp2_with fail
    generalize w4.setCell ⟨g, 0, none⟩ (.int .i64 x) = w5 at *
    generalize (at_ SC i ((SC i).get m)) = SC1 at *
    generalize (at_ SL i ((SL i).get m)) = SL1 at *
    generalize (at_ SR i ((SR i).get m)) = SR1 at *
    clear HOPw4 y0 yf p2 p3
    have HTL : Hid ((SL1 i).tellsL m = .slice (some ⟨g, 0, none⟩) 1 1) := by obtain ⟨t, h1, h2⟩ := HT.out.has; exact (tellsL_of h1).trans h2
    have HLH : Hid ((SL1 i).has m = true) := by obtain ⟨t, h1, h2⟩ := HT.out.has; exact has_of h1
    have HRH : Hid ((SR1 i).has m = true) := (show (SR1 i).has m = true from (HT.out.but.has (But.fair (lk_fair _) m) m).symm.trans HLH.out)
    have HCH : Hid ((SC1 i).has m = true) := (show (SC1 i).has m = true from ((HT.out.ac i HP.out).has ri_fair m).trans HRH.out)
    have HWD : Hid (Ws B (U + 1 + 1 + 1) n w5.drew W cs ls rs SC1 SL1 SR1 (.slice (some ⟨gc, 0, none⟩) n cc) (.slice (some ⟨gl, 0, none⟩) n cl) (.slice (some ⟨gr, 0, none⟩) n cr) vo vw) := HT.out.ws.below (Below.refl _ _).drew
    obtain ⟨p2, p3⟩ := op_cells HOPw5.out
    obtain ⟨_, _, e1, c0, c1⟩ := (HT.out.ws).cells_l HP.out
    cases e1
    have H1 := HWD.out.call_l HP.out fun own k => Li.get_any k HO.out.2 (by omega)
    rw [HLH.out, HTL.out] at H1
    have HC1 : Hid (Calls Try.prog 23 #[ptr (ls i), .int .i64 m] w5.drew fun r w' => r = .returned (.tuple #[.slice (some ⟨g, 0, none⟩) 1 1, .bool true]) ∧ Hid (After B (U + 1 + 1 + 1 + 1) n w5.drew W cs ls rs SC1 (at_ SL1 i ((SL1 i).get m)) SR1 (.slice (some ⟨gc, 0, none⟩) n cc) (.slice (some ⟨gl, 0, none⟩) n cl) (.slice (some ⟨gr, 0, none⟩) n cr) vo vw w')) := H1
    clear H1
    go_wp2_with fail
    go_region_held_law (fun W' => W'.cell? ⟨W, 1, none⟩ = some (.slice (some ⟨gl, 0, none⟩) n cl) ∧ W'.cell? ⟨gl, i, none⟩ = some (ptr (ls i)) ∧ W'.cell? ⟨b, 2, none⟩ = some (.int .i64 m)) (first | (refine ⟨?_, ?_, ?_⟩ <;> with_reducible assumption) | (go_keep; done))
      (first
        | (go_at_call 23; refine Calls.mono HC1.out ?_
           rintro r w6 ⟨rfl, hw6⟩
           obtain ⟨d2, d3⟩ := op_cells (op_moves hw6.out.2 (show w5.drew.heap[b]? = _ from HOPw5.out))
           obtain ⟨_, _, e1, d0, d1⟩ := hw6.out.1.cells_l HP.out
           cases e1))
    clear HC1 c0 c1 p2 p3 d0 d1 d2 d3
    have HOPw6 : Hid (w6.heap[b]? = some (.cells #[.int .i64 8, .int .i64 o, .int .i64 m, .int .i64 x] 33 (0, 0))) := op_moves hw6.out.2 HOPw5.out
    have HMw6 : Hid (Moves B w5 w6) := (Moves.below (Below.refl _ _).drew (HT.out.ws).hB).trans hw6.out.2
    have HWw6 : Hid (Ws B (U + 1 + 1 + 1 + 1) n w6 W cs ls rs SC1 (at_ SL1 i ((SL1 i).get m)) SR1 (.slice (some ⟨gc, 0, none⟩) n cc) (.slice (some ⟨gl, 0, none⟩) n cl) (.slice (some ⟨gr, 0, none⟩) n cr) vo vw) := hw6.out.1
    clear hw6 HWD
    have HWD : Hid (Ws B (U + 1 + 1 + 1 + 1) n w6.drew W cs ls rs SC1 (at_ SL1 i ((SL1 i).get m)) SR1 (.slice (some ⟨gc, 0, none⟩) n cc) (.slice (some ⟨gl, 0, none⟩) n cl) (.slice (some ⟨gr, 0, none⟩) n cr) vo vw) := HWw6.out.below (Below.refl _ _).drew
    obtain ⟨p2, p3⟩ := op_cells HOPw6.out
    obtain ⟨_, _, e1, c0, c1⟩ := (HWw6.out).cells_c HP.out
    cases e1
    have H1 := HWD.out.call_c HP.out fun own k => get_any k HO.out.2 (by omega)
    rw [HCH.out, ri_tells (HT.out.ac i HP.out) m] at H1
    have HC1 : Hid (Calls Try.prog 13 #[ptr (cs i), .int .i64 m] w6.drew fun r w' => r = .returned (.tuple #[.int .i64 (told m (SR1 i).L), .bool true]) ∧ Hid (After B (U + 1 + 1 + 1 + 1 + 1) n w6.drew W cs ls rs (at_ SC1 i ((SC1 i).get m)) (at_ SL1 i ((SL1 i).get m)) SR1 (.slice (some ⟨gc, 0, none⟩) n cc) (.slice (some ⟨gl, 0, none⟩) n cl) (.slice (some ⟨gr, 0, none⟩) n cr) vo vw w')) := H1
    clear H1
    go_wp2_with fail
    go_region_held_law (fun W' => W'.cell? ⟨W, 0, none⟩ = some (.slice (some ⟨gc, 0, none⟩) n cc) ∧ W'.cell? ⟨gc, i, none⟩ = some (ptr (cs i)) ∧ W'.cell? ⟨b, 2, none⟩ = some (.int .i64 m)) (first | (refine ⟨?_, ?_, ?_⟩ <;> with_reducible assumption) | (go_keep; done))
      (first
        | (go_at_call 13; refine Calls.mono HC1.out ?_
           rintro r w7 ⟨rfl, hw7⟩
           obtain ⟨d2, d3⟩ := op_cells (op_moves hw7.out.2 (show w6.drew.heap[b]? = _ from HOPw6.out))
           obtain ⟨_, _, e1, d0, d1⟩ := hw7.out.1.cells_c HP.out
           cases e1))
    clear HC1 c0 c1 p2 p3 d0 d1 d2 d3
    have HOPw7 : Hid (w7.heap[b]? = some (.cells #[.int .i64 8, .int .i64 o, .int .i64 m, .int .i64 x] 33 (0, 0))) := op_moves hw7.out.2 HOPw6.out
    have HMw7 : Hid (Moves B w6 w7) := (Moves.below (Below.refl _ _).drew (HWw6.out).hB).trans hw7.out.2
    have HWw7 : Hid (Ws B (U + 1 + 1 + 1 + 1 + 1) n w7 W cs ls rs (at_ SC1 i ((SC1 i).get m)) (at_ SL1 i ((SL1 i).get m)) SR1 (.slice (some ⟨gc, 0, none⟩) n cc) (.slice (some ⟨gl, 0, none⟩) n cl) (.slice (some ⟨gr, 0, none⟩) n cr) vo vw) := hw7.out.1
    clear hw7 HWD
    have HWD : Hid (Ws B (U + 1 + 1 + 1 + 1 + 1) n w7.drew W cs ls rs (at_ SC1 i ((SC1 i).get m)) (at_ SL1 i ((SL1 i).get m)) SR1 (.slice (some ⟨gc, 0, none⟩) n cc) (.slice (some ⟨gl, 0, none⟩) n cl) (.slice (some ⟨gr, 0, none⟩) n cr) vo vw) := HWw7.out.below (Below.refl _ _).drew
    obtain ⟨p2, p3⟩ := op_cells HOPw7.out
    obtain ⟨_, _, e1, c0, c1⟩ := (HWw7.out).cells_r HP.out
    cases e1
    have H1 := HWD.out.call_r HP.out fun own k => refGet_any k m (by omega)
    rw [HRH.out] at H1
    have HC1 : Hid (Calls Try.prog 24 #[ptr (rs i), .int .i64 m] w7.drew fun r w' => r = .returned (.tuple #[.int .i64 (told m (SR1 i).L), .bool true]) ∧ Hid (After B (U + 1 + 1 + 1 + 1 + 1 + 1) n w7.drew W cs ls rs (at_ SC1 i ((SC1 i).get m)) (at_ SL1 i ((SL1 i).get m)) (at_ SR1 i ((SR1 i).get m)) (.slice (some ⟨gc, 0, none⟩) n cc) (.slice (some ⟨gl, 0, none⟩) n cl) (.slice (some ⟨gr, 0, none⟩) n cr) vo vw w')) := H1
    clear H1
    go_wp2_with fail
    go_region_held_law (fun W' => W'.cell? ⟨W, 2, none⟩ = some (.slice (some ⟨gr, 0, none⟩) n cr) ∧ W'.cell? ⟨gr, i, none⟩ = some (ptr (rs i)) ∧ W'.cell? ⟨b, 2, none⟩ = some (.int .i64 m)) (first | (refine ⟨?_, ?_, ?_⟩ <;> with_reducible assumption) | (go_keep; done))
      (first
        | (go_at_call 24; refine Calls.mono HC1.out ?_
           rintro r w8 ⟨rfl, hw8⟩
           obtain ⟨d2, d3⟩ := op_cells (op_moves hw8.out.2 (show w7.drew.heap[b]? = _ from HOPw7.out))
           obtain ⟨_, _, e1, d0, d1⟩ := hw8.out.1.cells_r HP.out
           cases e1))
    clear HC1 c0 c1 p2 p3 d0 d1 d2 d3
    have HOPw8 : Hid (w8.heap[b]? = some (.cells #[.int .i64 8, .int .i64 o, .int .i64 m, .int .i64 x] 33 (0, 0))) := op_moves hw8.out.2 HOPw7.out
    have HMw8 : Hid (Moves B w7 w8) := (Moves.below (Below.refl _ _).drew (HWw7.out).hB).trans hw8.out.2
    have HWw8 : Hid (Ws B (U + 1 + 1 + 1 + 1 + 1 + 1) n w8 W cs ls rs (at_ SC1 i ((SC1 i).get m)) (at_ SL1 i ((SL1 i).get m)) (at_ SR1 i ((SR1 i).get m)) (.slice (some ⟨gc, 0, none⟩) n cc) (.slice (some ⟨gl, 0, none⟩) n cl) (.slice (some ⟨gr, 0, none⟩) n cr) vo vw) := hw8.out.1
    clear hw8 HWD
    have HM8 : Hid (Moves B w5 w8) := (HMw6.out.trans HMw7.out).trans HMw8.out
    have hM8 := HT.out.less HP.out ⟨HWw8.out, HM8.out⟩
    have HMD : Hid (Mid B (U + 1 + 1 + 1 + 1 + 1 + 1) n w8 W cs ls rs (at_ SC1 i ((SC1 i).get m)) (at_ SL1 i ((SL1 i).get m)) (at_ SR1 i ((SR1 i).get m)) (.slice (some ⟨gc, 0, none⟩) n cc) (.slice (some ⟨gl, 0, none⟩) n cl) (.slice (some ⟨gr, 0, none⟩) n cr) vo vw O N i m x g) := hM8
    have HBD8 : Hid (Below B w w8) := HBD5.out.trans HM8.out.low
    clear hM8 HWw6 HWw7 HWw8 HMw6 HMw7 HMw8 HOPw5 HOPw6 HOPw7 HM8 HT HBD5 HTL HLH HRH HCH
    generalize (at_ SC1 i ((SC1 i).get m)) = SC2 at *
    generalize (at_ SL1 i ((SL1 i).get m)) = SL2 at *
    generalize (at_ SR1 i ((SR1 i).get m)) = SR2 at *
    obtain ⟨p2, p3⟩ := op_cells HOPw8.out
    have HPT : Hid _ := puts_any (x := x) HMD.out.ws HP.out ((HMD.out.ac i HP.out).went ri_fair m) (HMD.out.but.went (But.fair (lk_fair _) m) m) HO.out.2 (by omega)
    go_wp2_with fail
    refine Calls.mono HPT.out ?_
    rintro r w9 ⟨rfl, hq⟩
    have HQ : Hid _ := hq
    clear hq p2 p3 HPT
    have y9 : w9.cell? ⟨g, 0, none⟩ = some (.int .i64 x) := by
      obtain ⟨g', _, _, k⟩ := HQ.out
      rw [row_cell (k.2.is g _ _ _ (by decide) (by decide) (by decide) (by decide) (by decide) (by decide) HMD.out.cell)]
      rfl
    have p3 : w9.cell? ⟨b, 3, none⟩ = some (.int .i64 x) := by
      obtain ⟨g', _, _, k⟩ := HQ.out
      exact (op_cells (op_moves k.2 HOPw8.out)).2
    go_wp2_with fail
    go_quiet (fail)
    go_wp2_with fail
    go_ret
    obtain ⟨g', k1, k2, k3⟩ := HQ.out
    exact ⟨rfl, _, _, _, ((HMD.out.put HP.out k1 k2 k3).mono (by omega)).below (below_draws (Below.refl _ _) _), below_draws (HBD8.out.trans k3.2.low) _⟩
end Go.Proofs.Yteajgodpdfcioaa
