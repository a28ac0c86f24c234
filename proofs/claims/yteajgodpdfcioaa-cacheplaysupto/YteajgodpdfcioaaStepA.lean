/- step: a kind each. -/
import Derived.Test.YteajgodpdfcioaaInvP
import Derived.Test.YteajgodpdfcioaaSame
namespace Go.Proofs.Yteajgodpdfcioaa
open Go.RowKit Go.Maps

theorem Inv.below {B U n : Nat} {w w' : World} {W : Nat} {cs ls rs : Nat → Nat} {SC SL : Nat → Ca Value} {SR : Nat → Ca Int} {vc vl vr vo vw : Value} {O N : List (Value × List Int)} (h : Inv B U n w W cs ls rs SC SL SR vc vl vr vo vw O N) (hb : Below w.heap.size w w') : Inv B U n w' W cs ls rs SC SL SR vc vl vr vo vw O N :=
  ⟨h.ws.below hb, h.bk.stay (Stay.below hb), h.ac, fun j hj => (h.al j hj).stay (Stay.below hb), fun j hj t ht k hk => ⟨(h.own j hj t ht k hk).1, Nat.lt_of_lt_of_le (h.own j hj t ht k hk).2.1 hb.size, (h.own j hj t ht k hk).2.2⟩, h.one⟩
theorem Alike.unpinIf {X Y : Type} {R : Th X → Th Y → Prop} {s : Ca X} {s' : Ca Y} (h : Alike R s s') (f : Fair R) (m : Int) : Alike R (if s.canUnpin m = true then s.unpin m else s) (if s'.canUnpin m = true then s'.unpin m else s') := by
  rw [h.canUnpin f m]
  split
  · exact h.unpin f m
  · exact h
theorem unpinIf_from {X : Type} {s : Ca X} {m : Int} : ∀ t ∈ (if s.canUnpin m = true then s.unpin m else s).L, ∃ u ∈ s.L, u.n = t.n ∧ u.x = t.x := fun t ht => by
  split at ht
  · exact unpin_from t ht
  · exact ⟨t, ht, rfl, rfl⟩
set_option maxHeartbeats 800000 in
set_option maxRecDepth 100000 in
theorem step_get {B U n : Nat} {w : World} {W : Nat} {cs ls rs : Nat → Nat} {SC SL : Nat → Ca Value} {SR : Nat → Ca Int} {vc vl vr vo vw : Value} {O N : List (Value × List Int)} (h : Inv B U n w W cs ls rs SC SL SR vc vl vr vo vw O N) (hn : 0 < n) {o m x : Int} (ho : (Lit.int .i64 o).wf = true) (hm : (Lit.int .i64 m).wf = true) (hU : U + 3 < 4611686018427387904) :
    Calls Try.prog 8 #[ptr W, .agg #[.int .i64 2, .int .i64 o, .int .i64 m, .int .i64 x]] w fun r w' => r = .returned (.bool true) ∧ ∃ SC' SL' SR', Inv B (U + 1 + 1 + 1) n w' W cs ls rs SC' SL' SR' vc vl vr vo vw O N ∧ Below B w w' := by
  have HB : Hid (Below w.heap.size w (w.alloc (.cells #[.int .i64 2, .int .i64 o, .int .i64 m, .int .i64 x] 33))) := below_new _ _
  have hi := h.below HB.out
  have HBW : Hid (B ≤ w.heap.size) := h.ws.hB
  have hnn : n ≤ 30 := h.ws.few
  obtain ⟨gc, cc, rfl, c0, _⟩ := hi.ws.cells_c hn
  have HI : Hid (Inv B U n (w.alloc (.cells #[.int .i64 2, .int .i64 o, .int .i64 m, .int .i64 x] 33)) W cs ls rs SC SL SR (.slice (some ⟨gc, 0, none⟩) n cc) vl vr vo vw O N) := hi
  have hnz : ((n : Int) == 0) = false := by rw [beq_eq_false_iff_ne]; omega
  have HN : Hid (0 < n ∧ n ≤ 30) := ⟨hn, hnn⟩
  have HO : Hid ((Lit.int .i64 o).wf = true ∧ (Lit.int .i64 m).wf = true) := ⟨ho, hm⟩
  clear h hn ho hm hi
  go_enter Try.func8, Try.ntmps8
  go_wp2_with fail
  go_quiet ((go_at_call 11; exact Calls.quiet_of_same (pick_any _ o n HO.out.1 HN.out.1 (by have := HN.out.2; omega))))
  go_wp2_with fail
  have HID : Hid (Inv B U n ((w.alloc (.cells #[.int .i64 2, .int .i64 o, .int .i64 m, .int .i64 x] 33)).drewN nq) W cs ls rs SC SL SR (.slice (some ⟨gc, 0, none⟩) n cc) vl vr vo vw O N) := HI.out.below (below_draws (Below.refl _ _) nq)
  have HBD : Hid (Below B w ((w.alloc (.cells #[.int .i64 2, .int .i64 o, .int .i64 m, .int .i64 x] 33)).drewN nq)) := below_draws (HB.out.mono HBW.out) nq
  have HP : Hid (pickK o n < n) := pickK_lt _ _ HN.out.1
  refine (gets_any HID.out.ws HP.out (HID.out.ac _ HP.out) (HID.out.al _ HP.out) HO.out.2 hU).mono ?_
  rintro r w2 ⟨rfl, hA⟩
  have HA : Hid _ := hA
  clear hA
  go_wp2_with fail
  go_ret
  exact ⟨rfl, _, _, _, HID.out.less HP.out HA.out ((HID.out.ac _ HP.out).get ri_fair m) ((HID.out.al _ HP.out).get (lk_fair _) m) get_from, HBD.out.trans HA.out.2.low⟩
set_option maxHeartbeats 800000 in
set_option maxRecDepth 100000 in
theorem step_put {B U n : Nat} {w : World} {W : Nat} {cs ls rs : Nat → Nat} {SC SL : Nat → Ca Value} {SR : Nat → Ca Int} {vc vl vr vo vw : Value} {O N : List (Value × List Int)} (h : Inv B U n w W cs ls rs SC SL SR vc vl vr vo vw O N) (hn : 0 < n) {o m x : Int} (ho : (Lit.int .i64 o).wf = true) (hm : (Lit.int .i64 m).wf = true) (hU : U + 3 < 4611686018427387904) :
    Calls Try.prog 8 #[ptr W, .agg #[.int .i64 3, .int .i64 o, .int .i64 m, .int .i64 x]] w fun r w' => r = .returned (.bool true) ∧ ∃ SC' SL' SR', Inv B (U + 1 + 1 + 1) n w' W cs ls rs SC' SL' SR' vc vl vr vo vw O N ∧ Below B w w' := by
  have HB : Hid (Below w.heap.size w (w.alloc (.cells #[.int .i64 3, .int .i64 o, .int .i64 m, .int .i64 x] 33))) := below_new _ _
  have hi := h.below HB.out
  have HBW : Hid (B ≤ w.heap.size) := h.ws.hB
  have hnn : n ≤ 30 := h.ws.few
  obtain ⟨gc, cc, rfl, c0, _⟩ := hi.ws.cells_c hn
  have HI : Hid (Inv B U n (w.alloc (.cells #[.int .i64 3, .int .i64 o, .int .i64 m, .int .i64 x] 33)) W cs ls rs SC SL SR (.slice (some ⟨gc, 0, none⟩) n cc) vl vr vo vw O N) := hi
  have hnz : ((n : Int) == 0) = false := by rw [beq_eq_false_iff_ne]; omega
  have HN : Hid (0 < n ∧ n ≤ 30) := ⟨hn, hnn⟩
  have HO : Hid ((Lit.int .i64 o).wf = true ∧ (Lit.int .i64 m).wf = true) := ⟨ho, hm⟩
  clear h hn ho hm hi
  go_enter Try.func8, Try.ntmps8
  go_wp2_with fail
  go_quiet ((go_at_call 11; exact Calls.quiet_of_same (pick_any _ o n HO.out.1 HN.out.1 (by have := HN.out.2; omega))))
  go_wp2_with fail
  have HID : Hid (Inv B U n ((w.alloc (.cells #[.int .i64 3, .int .i64 o, .int .i64 m, .int .i64 x] 33)).drewN nq) W cs ls rs SC SL SR (.slice (some ⟨gc, 0, none⟩) n cc) vl vr vo vw O N) := HI.out.below (below_draws (Below.refl _ _) nq)
  have HBD : Hid (Below B w ((w.alloc (.cells #[.int .i64 3, .int .i64 o, .int .i64 m, .int .i64 x] 33)).drewN nq)) := below_draws (HB.out.mono HBW.out) nq
  have HP : Hid (pickK o n < n) := pickK_lt _ _ HN.out.1
  refine (puts_any HID.out.ws HP.out ((HID.out.ac _ HP.out).went ri_fair m) ((HID.out.al _ HP.out).went (lk_fair _) m) HO.out.2 hU).mono ?_
  rintro r w2 ⟨rfl, hA⟩
  have HA : Hid _ := hA
  clear hA
  go_wp2_with fail
  go_ret
  obtain ⟨g, h1, h2, h3⟩ := HA.out
  exact ⟨rfl, _, _, _, Inv.put HID.out.ws.hB HID.out.bk (fun j hj _ => HID.out.ac j hj) (fun j hj _ => HID.out.al j hj) HID.out.own HID.out.one h3 h1 h2 ((HID.out.ac _ HP.out).put ri_fair m fun k => ⟨rfl, rfl, rfl⟩) (((HID.out.al _ HP.out).stay h3.2.stay).put (lk_fair _) m fun k => ⟨rfl, rfl, g, rfl, h2⟩), HBD.out.trans h3.2.low⟩
set_option maxHeartbeats 800000 in
set_option maxRecDepth 100000 in
theorem step_drop {B U n : Nat} {w : World} {W : Nat} {cs ls rs : Nat → Nat} {SC SL : Nat → Ca Value} {SR : Nat → Ca Int} {vc vl vr vo vw : Value} {O N : List (Value × List Int)} (h : Inv B U n w W cs ls rs SC SL SR vc vl vr vo vw O N) (hn : 0 < n) {o m x : Int} (ho : (Lit.int .i64 o).wf = true) (hm : (Lit.int .i64 m).wf = true) (hU : U + 3 < 4611686018427387904) :
    Calls Try.prog 8 #[ptr W, .agg #[.int .i64 4, .int .i64 o, .int .i64 m, .int .i64 x]] w fun r w' => r = .returned (.bool true) ∧ ∃ SC' SL' SR', Inv B (U + 1 + 1 + 1) n w' W cs ls rs SC' SL' SR' vc vl vr vo vw O N ∧ Below B w w' := by
  have HB : Hid (Below w.heap.size w (w.alloc (.cells #[.int .i64 4, .int .i64 o, .int .i64 m, .int .i64 x] 33))) := below_new _ _
  have hi := h.below HB.out
  have HBW : Hid (B ≤ w.heap.size) := h.ws.hB
  have hnn : n ≤ 30 := h.ws.few
  obtain ⟨gc, cc, rfl, c0, _⟩ := hi.ws.cells_c hn
  have HI : Hid (Inv B U n (w.alloc (.cells #[.int .i64 4, .int .i64 o, .int .i64 m, .int .i64 x] 33)) W cs ls rs SC SL SR (.slice (some ⟨gc, 0, none⟩) n cc) vl vr vo vw O N) := hi
  have hnz : ((n : Int) == 0) = false := by rw [beq_eq_false_iff_ne]; omega
  have HN : Hid (0 < n ∧ n ≤ 30) := ⟨hn, hnn⟩
  have HO : Hid ((Lit.int .i64 o).wf = true ∧ (Lit.int .i64 m).wf = true) := ⟨ho, hm⟩
  clear h hn ho hm hi
  go_enter Try.func8, Try.ntmps8
  go_wp2_with fail
  go_quiet ((go_at_call 11; exact Calls.quiet_of_same (pick_any _ o n HO.out.1 HN.out.1 (by have := HN.out.2; omega))))
  go_wp2_with fail
  have HID : Hid (Inv B U n ((w.alloc (.cells #[.int .i64 4, .int .i64 o, .int .i64 m, .int .i64 x] 33)).drewN nq) W cs ls rs SC SL SR (.slice (some ⟨gc, 0, none⟩) n cc) vl vr vo vw O N) := HI.out.below (below_draws (Below.refl _ _) nq)
  have HBD : Hid (Below B w ((w.alloc (.cells #[.int .i64 4, .int .i64 o, .int .i64 m, .int .i64 x] 33)).drewN nq)) := below_draws (HB.out.mono HBW.out) nq
  have HP : Hid (pickK o n < n) := pickK_lt _ _ HN.out.1
  refine (heldDrop_any HID.out.ws HP.out (HID.out.ac _ HP.out) (HID.out.al _ HP.out) HO.out.2 hU).mono ?_
  rintro r w2 ⟨rfl, hA⟩
  have HA : Hid _ := hA
  clear hA
  go_wp2_with fail
  go_ret
  exact ⟨rfl, _, _, _, HID.out.less HP.out HA.out ((HID.out.ac _ HP.out).drop ri_fair m) ((HID.out.al _ HP.out).drop (lk_fair _) m) drop_from, HBD.out.trans HA.out.2.low⟩
set_option maxHeartbeats 800000 in
set_option maxRecDepth 100000 in
theorem step_pin {B U n : Nat} {w : World} {W : Nat} {cs ls rs : Nat → Nat} {SC SL : Nat → Ca Value} {SR : Nat → Ca Int} {vc vl vr vo vw : Value} {O N : List (Value × List Int)} (h : Inv B U n w W cs ls rs SC SL SR vc vl vr vo vw O N) (hn : 0 < n) {o m x : Int} (ho : (Lit.int .i64 o).wf = true) (hm : (Lit.int .i64 m).wf = true) (hU : U + 3 < 4611686018427387904) :
    Calls Try.prog 8 #[ptr W, .agg #[.int .i64 5, .int .i64 o, .int .i64 m, .int .i64 x]] w fun r w' => r = .returned (.bool true) ∧ ∃ SC' SL' SR', Inv B (U + 1 + 1 + 1) n w' W cs ls rs SC' SL' SR' vc vl vr vo vw O N ∧ Below B w w' := by
  have HB : Hid (Below w.heap.size w (w.alloc (.cells #[.int .i64 5, .int .i64 o, .int .i64 m, .int .i64 x] 33))) := below_new _ _
  have hi := h.below HB.out
  have HBW : Hid (B ≤ w.heap.size) := h.ws.hB
  have hnn : n ≤ 30 := h.ws.few
  obtain ⟨gc, cc, rfl, c0, _⟩ := hi.ws.cells_c hn
  have HI : Hid (Inv B U n (w.alloc (.cells #[.int .i64 5, .int .i64 o, .int .i64 m, .int .i64 x] 33)) W cs ls rs SC SL SR (.slice (some ⟨gc, 0, none⟩) n cc) vl vr vo vw O N) := hi
  have hnz : ((n : Int) == 0) = false := by rw [beq_eq_false_iff_ne]; omega
  have HN : Hid (0 < n ∧ n ≤ 30) := ⟨hn, hnn⟩
  have HO : Hid ((Lit.int .i64 o).wf = true ∧ (Lit.int .i64 m).wf = true) := ⟨ho, hm⟩
  clear h hn ho hm hi
  go_enter Try.func8, Try.ntmps8
  go_wp2_with fail
  go_quiet ((go_at_call 11; exact Calls.quiet_of_same (pick_any _ o n HO.out.1 HN.out.1 (by have := HN.out.2; omega))))
  go_wp2_with fail
  have HID : Hid (Inv B U n ((w.alloc (.cells #[.int .i64 5, .int .i64 o, .int .i64 m, .int .i64 x] 33)).drewN nq) W cs ls rs SC SL SR (.slice (some ⟨gc, 0, none⟩) n cc) vl vr vo vw O N) := HI.out.below (below_draws (Below.refl _ _) nq)
  have HBD : Hid (Below B w ((w.alloc (.cells #[.int .i64 5, .int .i64 o, .int .i64 m, .int .i64 x] 33)).drewN nq)) := below_draws (HB.out.mono HBW.out) nq
  have HP : Hid (pickK o n < n) := pickK_lt _ _ HN.out.1
  refine (heldPin_any HID.out.ws HP.out (HID.out.ac _ HP.out) (HID.out.al _ HP.out) HO.out.2 hU).mono ?_
  rintro r w2 ⟨rfl, hA⟩
  have HA : Hid _ := hA
  clear hA
  go_wp2_with fail
  go_ret
  exact ⟨rfl, _, _, _, HID.out.less HP.out HA.out ((HID.out.ac _ HP.out).pin ri_fair m) ((HID.out.al _ HP.out).pin (lk_fair _) m) pin_from, HBD.out.trans HA.out.2.low⟩
set_option maxHeartbeats 800000 in
set_option maxRecDepth 100000 in
theorem step_unpin {B U n : Nat} {w : World} {W : Nat} {cs ls rs : Nat → Nat} {SC SL : Nat → Ca Value} {SR : Nat → Ca Int} {vc vl vr vo vw : Value} {O N : List (Value × List Int)} (h : Inv B U n w W cs ls rs SC SL SR vc vl vr vo vw O N) (hn : 0 < n) {o m x : Int} (ho : (Lit.int .i64 o).wf = true) (hm : (Lit.int .i64 m).wf = true) (hU : U + 3 < 4611686018427387904) :
    Calls Try.prog 8 #[ptr W, .agg #[.int .i64 6, .int .i64 o, .int .i64 m, .int .i64 x]] w fun r w' => r = .returned (.bool true) ∧ ∃ SC' SL' SR', Inv B (U + 1 + 1 + 1) n w' W cs ls rs SC' SL' SR' vc vl vr vo vw O N ∧ Below B w w' := by
  have HB : Hid (Below w.heap.size w (w.alloc (.cells #[.int .i64 6, .int .i64 o, .int .i64 m, .int .i64 x] 33))) := below_new _ _
  have hi := h.below HB.out
  have HBW : Hid (B ≤ w.heap.size) := h.ws.hB
  have hnn : n ≤ 30 := h.ws.few
  obtain ⟨gc, cc, rfl, c0, _⟩ := hi.ws.cells_c hn
  have HI : Hid (Inv B U n (w.alloc (.cells #[.int .i64 6, .int .i64 o, .int .i64 m, .int .i64 x] 33)) W cs ls rs SC SL SR (.slice (some ⟨gc, 0, none⟩) n cc) vl vr vo vw O N) := hi
  have hnz : ((n : Int) == 0) = false := by rw [beq_eq_false_iff_ne]; omega
  have HN : Hid (0 < n ∧ n ≤ 30) := ⟨hn, hnn⟩
  have HO : Hid ((Lit.int .i64 o).wf = true ∧ (Lit.int .i64 m).wf = true) := ⟨ho, hm⟩
  clear h hn ho hm hi
  go_enter Try.func8, Try.ntmps8
  go_wp2_with fail
  go_quiet ((go_at_call 11; exact Calls.quiet_of_same (pick_any _ o n HO.out.1 HN.out.1 (by have := HN.out.2; omega))))
  go_wp2_with fail
  have HID : Hid (Inv B U n ((w.alloc (.cells #[.int .i64 6, .int .i64 o, .int .i64 m, .int .i64 x] 33)).drewN nq) W cs ls rs SC SL SR (.slice (some ⟨gc, 0, none⟩) n cc) vl vr vo vw O N) := HI.out.below (below_draws (Below.refl _ _) nq)
  have HBD : Hid (Below B w ((w.alloc (.cells #[.int .i64 6, .int .i64 o, .int .i64 m, .int .i64 x] 33)).drewN nq)) := below_draws (HB.out.mono HBW.out) nq
  have HP : Hid (pickK o n < n) := pickK_lt _ _ HN.out.1
  refine (heldUnpin_any HID.out.ws HP.out (HID.out.ac _ HP.out) (HID.out.al _ HP.out) HO.out.2 rfl rfl rfl hU).mono ?_
  rintro r w2 ⟨rfl, hA⟩
  have HA : Hid _ := hA
  clear hA
  go_wp2_with fail
  go_ret
  exact ⟨rfl, _, _, _, HID.out.less HP.out HA.out ((HID.out.ac _ HP.out).unpinIf ri_fair m) ((HID.out.al _ HP.out).unpinIf (lk_fair _) m) unpinIf_from, HBD.out.trans HA.out.2.low⟩
set_option maxHeartbeats 800000 in
set_option maxRecDepth 100000 in
theorem step_tell {B U n : Nat} {w : World} {W : Nat} {cs ls rs : Nat → Nat} {SC SL : Nat → Ca Value} {SR : Nat → Ca Int} {vc vl vr vo vw : Value} {O N : List (Value × List Int)} (h : Inv B U n w W cs ls rs SC SL SR vc vl vr vo vw O N) (hn : 0 < n) {o m x : Int} (ho : (Lit.int .i64 o).wf = true) (hm : (Lit.int .i64 m).wf = true) (_hU : U + 3 < 4611686018427387904) (hO : O.length + 2 ≤ 1099511627776) :
    Calls Try.prog 8 #[ptr W, .agg #[.int .i64 7, .int .i64 o, .int .i64 m, .int .i64 x]] w fun r w' => r = .returned (.bool true) ∧ ∃ vo' vw' O' N', Inv B U n w' W cs ls rs SC SL SR vc vl vr vo' vw' O' N' ∧ Below B w w' ∧ O'.length = O.length + 2 ∧ (∀ p ∈ O' ++ N', p ∈ O ++ N ∨ (∀ k, p.1.ownBlock = some k → B ≤ k) ∧ p.2.length ≤ 65536) := by
  have HB : Hid (Below w.heap.size w (w.alloc (.cells #[.int .i64 7, .int .i64 o, .int .i64 m, .int .i64 x] 33))) := below_new _ _
  have hi := h.below HB.out
  have HBW : Hid (B ≤ w.heap.size) := h.ws.hB
  have hnn : n ≤ 30 := h.ws.few
  obtain ⟨gc, cc, rfl, c0, _⟩ := hi.ws.cells_c hn
  have HI : Hid (Inv B U n (w.alloc (.cells #[.int .i64 7, .int .i64 o, .int .i64 m, .int .i64 x] 33)) W cs ls rs SC SL SR (.slice (some ⟨gc, 0, none⟩) n cc) vl vr vo vw O N) := hi
  have hnz : ((n : Int) == 0) = false := by rw [beq_eq_false_iff_ne]; omega
  have HN : Hid (0 < n ∧ n ≤ 30) := ⟨hn, hnn⟩
  have HO : Hid ((Lit.int .i64 o).wf = true ∧ (Lit.int .i64 m).wf = true) := ⟨ho, hm⟩
  clear h hn ho hm hi
  go_enter Try.func8, Try.ntmps8
  go_wp2_with fail
  go_quiet ((go_at_call 11; exact Calls.quiet_of_same (pick_any _ o n HO.out.1 HN.out.1 (by have := HN.out.2; omega))))
  go_wp2_with fail
  have HID : Hid (Inv B U n ((w.alloc (.cells #[.int .i64 7, .int .i64 o, .int .i64 m, .int .i64 x] 33)).drewN nq) W cs ls rs SC SL SR (.slice (some ⟨gc, 0, none⟩) n cc) vl vr vo vw O N) := HI.out.below (below_draws (Below.refl _ _) nq)
  have HBD : Hid (Below B w ((w.alloc (.cells #[.int .i64 7, .int .i64 o, .int .i64 m, .int .i64 x] 33)).drewN nq)) := below_draws (HB.out.mono HBW.out) nq
  have HP : Hid (pickK o n < n) := pickK_lt _ _ HN.out.1
  refine (tells_any HID.out.ws HID.out.bk HP.out (HID.out.ac _ HP.out) (HID.out.al _ HP.out) hO).mono ?_
  rintro r w2 ⟨rfl, hA⟩
  have HA : Hid _ := hA
  clear hA
  go_wp2_with fail
  go_ret
  obtain ⟨vo', vw', O', N', h1⟩ := HA.out
  exact ⟨rfl, vo', vw', O', N', HID.out.told h1, HBD.out.trans h1.low, h1.len, fun p hp => (h1.new p hp).imp id fun h => ⟨fun k hk => Nat.le_trans HID.out.ws.hB (h.1 k hk), h.2⟩⟩
end Go.Proofs.Yteajgodpdfcioaa
