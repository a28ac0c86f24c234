/- puts, held. -/
import Derived.Test.YteajgodpdfcioaaWs
namespace Go.Proofs.Yteajgodpdfcioaa
open Go.RowKit Go.Maps

set_option maxHeartbeats 800000 in
set_option maxRecDepth 100000 in
theorem puts_any {B U n : Nat} {w : World} {W i : Nat} {cs ls rs : Nat → Nat} {SC SL : Nat → Ca Value} {SR : Nat → Ca Int} {vc vl vr vo vw : Value} (h : Ws B U n w W cs ls rs SC SL SR vc vl vr vo vw) (hi : i < n) {m x : Int} (hb : (SC i).went m = (SR i).went m) (hbl : (SL i).went m = (SR i).went m) (hm : (Lit.int .i64 m).wf = true) (hU : U + 3 < 4611686018427387904) :
    Calls Try.prog 21 #[ptr W, .int .i64 (i : Int), .int .i64 m, .int .i64 x] w fun r w' => r = .returned (.bool true) ∧ ∃ g, w.heap.size ≤ g ∧ w'.heap[g]? = some (.cells #[.int .i64 x] 3 (0, 0)) ∧ After B (U + 1 + 1 + 1) n w W cs ls rs (at_ SC i ((SC i).put m (.int .i64 x))) (at_ SL i ((SL i).put m (.slice (some ⟨g, 0, none⟩) 1 1))) (at_ SR i ((SR i).put m x)) vc vl vr vo vw w' := by
  have HA := h.call_c hi fun own k => put_any k hm ⟨x, rfl⟩ (by omega)
  rw [hb] at HA
  obtain ⟨gc, cc, rfl, c0, c1⟩ := h.cells_c hi
  obtain ⟨gl, cl, rfl, _, _⟩ := h.cells_l hi
  obtain ⟨gr, cr, rfl, _, _⟩ := h.cells_r hi
  have hiz : (i : Int) < (n : Int) := by omega
  have hnz : (n : Int) ≤ 30 := by have := h.few; omega
  have HBL : Hid ((SL i).went m = (SR i).went m) := hbl
  have HIN : Hid (i < n) := hi
  have HAH : Hid (Calls Try.prog 14 #[ptr (cs i), .int .i64 m, .int .i64 x] w fun r w' => r = .returned (.tuple #[.int .i64 ((SR i).went m).1, .bool ((SR i).went m).2]) ∧ Hid (After B (U + 1) n w W cs ls rs (at_ SC i ((SC i).put m (.int .i64 x))) SL SR (.slice (some ⟨gc, 0, none⟩) n cc) (.slice (some ⟨gl, 0, none⟩) n cl) (.slice (some ⟨gr, 0, none⟩) n cr) vo vw w')) := HA
  clear HA hb hbl h hi
  generalize hz : ((SR i).went m).1 = z at *
  generalize ht : ((SR i).went m).2 = t at *
  have HWN : Hid ((SR i).went m = (z, t)) := (show (SR i).went m = (z, t) by rw [← hz, ← ht])
  clear hz ht
  have htt : (t == t) = true := by simp
  go_enter Try.func21, Try.ntmps21
  go_wp2_with fail
  refine Calls.mono HAH.out ?_
  rintro r w1 ⟨rfl, h1⟩
  clear HAH c0 c1
  obtain ⟨_, _, e1, c0, c1⟩ := h1.out.1.cells_l HIN.out
  cases e1
  have HT1 : Hid (Moves B w w1) := h1.out.2
  obtain ⟨wa, hwa⟩ : ∃ wa, wa = w1.alloc (.cells #[.int .i64 x] 3) := ⟨_, rfl⟩
  have hba : Below w1.heap.size w1 wa := by rw [hwa]; exact below_new _ _
  have hga : wa.heap[w1.heap.size]? = some (.cells #[.int .i64 x] 3 (0, 0)) := by rw [hwa]; exact heap_alloc_last _ _
  have hwsa := h1.out.1.stay (Stay.below hba) (h1.out.1.wos.below hba)
  have HLT := hwsa.call_l HIN.out fun own k => Li.put_any (x := .slice (some ⟨w1.heap.size, 0, none⟩) 1 1) k hm ⟨_, _, _, rfl⟩ (by omega)
  rw [HBL.out, HWN.out] at HLT
  have HLH : Hid (Calls Try.prog 37 #[ptr (ls i), .int .i64 m, .slice (some ⟨w1.heap.size, 0, none⟩) 1 1] wa fun r w' => r = .returned (.tuple #[.int .i64 z, .bool t]) ∧ Hid (After B (U + 1 + 1) n wa W cs ls rs (at_ SC i ((SC i).put m (.int .i64 x))) (at_ SL i ((SL i).put m (.slice (some ⟨w1.heap.size, 0, none⟩) 1 1))) SR (.slice (some ⟨gc, 0, none⟩) n cc) (.slice (some ⟨gl, 0, none⟩) n cl) (.slice (some ⟨gr, 0, none⟩) n cr) vo vw w')) := HLT
  have HGA : Hid (wa.heap[w1.heap.size]? = some (.cells #[.int .i64 x] 3 (0, 0))) := hga
  have HTA : Hid (Moves B w wa) := HT1.out.trans (Moves.below hba h1.out.1.hB)
  have HSZ : Hid (w.heap.size ≤ w1.heap.size) := (show w.heap.size ≤ w1.heap.size from h1.out.2.size)
  have HWA : Hid (w1.alloc (.cells #[.int .i64 x] 3) = wa) := hwa.symm
  clear HLT hba hga hwsa hwa h1 HT1
  go_wp2_with fail
  rw [HWA.out]
  refine Calls.mono HLH.out ?_
  rintro r w2 ⟨rfl, h2⟩
  clear HLH c0 c1
  obtain ⟨_, _, e1, c0, c1⟩ := h2.out.1.cells_r HIN.out
  cases e1
  have HRT := h2.out.1.call_r HIN.out fun own k => refPut_any k m x
  rw [HWN.out] at HRT
  have HRH : Hid (Calls Try.prog 38 #[ptr (rs i), .int .i64 m, .int .i64 x] w2 fun r w' => r = .returned (.tuple #[.int .i64 z, .bool t]) ∧ Hid (After B (U + 1 + 1 + 1) n w2 W cs ls rs (at_ SC i ((SC i).put m (.int .i64 x))) (at_ SL i ((SL i).put m (.slice (some ⟨w1.heap.size, 0, none⟩) 1 1))) (at_ SR i ((SR i).put m x)) (.slice (some ⟨gc, 0, none⟩) n cc) (.slice (some ⟨gl, 0, none⟩) n cl) (.slice (some ⟨gr, 0, none⟩) n cr) vo vw w')) := HRT
  have HT2 : Hid (Moves B wa w2) := h2.out.2
  clear h2 HRT
  go_wp2_with fail
  refine Calls.mono HRH.out ?_
  rintro r w3 ⟨rfl, h3⟩
  clear HRH c0 c1
  go_wp2_with fail
  go_ret
  exact ⟨by cases t <;> simp, w1.heap.size, HSZ.out, (HT2.out.trans h3.out.2).is _ _ _ _ (by decide) (by decide) (by decide) (by decide) (by decide) (by decide) HGA.out, h3.out.1, (HTA.out.trans HT2.out).trans h3.out.2⟩
set_option maxHeartbeats 800000 in
set_option maxRecDepth 100000 in
theorem heldDrop_any {B U n : Nat} {w : World} {W i : Nat} {cs ls rs : Nat → Nat} {SC SL : Nat → Ca Value} {SR : Nat → Ca Int} {vc vl vr vo vw : Value} (h : Ws B U n w W cs ls rs SC SL SR vc vl vr vo vw) (hi : i < n) (ac : Alike ri (SC i) (SR i)) (al : Alike (lk w) (SL i) (SR i)) {m : Int} (hm : (Lit.int .i64 m).wf = true) (_hU : U + 3 < 4611686018427387904) :
    Calls Try.prog 22 #[ptr W, .int .i64 4, .int .i64 (i : Int), .int .i64 m] w fun r w' => r = .returned (.bool true) ∧ After B (U + 1 + 1 + 1) n w W cs ls rs (at_ SC i ((SC i).drop m)) (at_ SL i ((SL i).drop m)) (at_ SR i ((SR i).drop m)) vc vl vr vo vw w' := by
  have hb : (SC i).has m = (SR i).has m := ac.has ri_fair m
  have hbl : (SL i).has m = (SR i).has m := al.has (lk_fair w) m
  have HA := h.call_c hi fun own k => drop_any k hm
  rw [hb] at HA
  obtain ⟨gc, cc, rfl, c0, c1⟩ := h.cells_c hi
  obtain ⟨gl, cl, rfl, _, _⟩ := h.cells_l hi
  obtain ⟨gr, cr, rfl, _, _⟩ := h.cells_r hi
  have hiz : (i : Int) < (n : Int) := by omega
  have hnz : (n : Int) ≤ 30 := by have := h.few; omega
  have HBL : Hid ((SL i).has m = (SR i).has m) := hbl
  have HBC : Hid ((SC i).has m = (SR i).has m) := hb
  have HIN : Hid (i < n) := hi
  generalize ht : (SR i).has m = t at *
  have HAH : Hid (Calls Try.prog 39 #[ptr (cs i), .int .i64 m] w fun r w' => r = .returned (.bool t) ∧ Hid (After B (U + 1) n w W cs ls rs (at_ SC i _) SL SR (.slice (some ⟨gc, 0, none⟩) n cc) (.slice (some ⟨gl, 0, none⟩) n cl) (.slice (some ⟨gr, 0, none⟩) n cr) vo vw w')) := HA
  have HTT : Hid ((SR i).has m = t) := ht
  have htt : (t == t) = true := by simp
  clear HA hb hbl ac al h hi ht
  go_enter Try.func22, Try.ntmps22
  go_wp2_with fail
  refine Calls.mono HAH.out ?_
  rintro r w1 ⟨rfl, h1⟩
  clear HAH c0 c1
  obtain ⟨_, _, e1, c0, c1⟩ := h1.out.1.cells_l HIN.out
  cases e1
  have HLT := h1.out.1.call_l HIN.out fun own k => Li.drop_any k hm
  rw [HBL.out] at HLT
  have HLH : Hid (Calls Try.prog 40 #[ptr (ls i), .int .i64 m] w1 fun r w' => r = .returned (.bool t) ∧ Hid (After B (U + 1 + 1) n w1 W cs ls rs (at_ SC i _) (at_ SL i _) SR (.slice (some ⟨gc, 0, none⟩) n cc) (.slice (some ⟨gl, 0, none⟩) n cl) (.slice (some ⟨gr, 0, none⟩) n cr) vo vw w')) := HLT
  have HT1 : Hid (Moves B w w1) := h1.out.2
  clear HLT h1
  go_wp2_with fail
  refine Calls.mono HLH.out ?_
  rintro r w2 ⟨rfl, h2⟩
  clear HLH c0 c1
  obtain ⟨_, _, e1, c0, c1⟩ := h2.out.1.cells_r HIN.out
  cases e1
  have HRT := h2.out.1.call_r HIN.out fun own k => refDrop_any k m
  rw [HTT.out] at HRT
  have HRH : Hid (Calls Try.prog 41 #[ptr (rs i), .int .i64 m] w2 fun r w' => r = .returned (.bool t) ∧ Hid (After B (U + 1 + 1 + 1) n w2 W cs ls rs (at_ SC i _) (at_ SL i _) (at_ SR i _) (.slice (some ⟨gc, 0, none⟩) n cc) (.slice (some ⟨gl, 0, none⟩) n cl) (.slice (some ⟨gr, 0, none⟩) n cr) vo vw w')) := HRT
  have HT2 : Hid (Moves B w w2) := HT1.out.trans h2.out.2
  clear h2 HRT HT1
  go_wp2_with fail
  refine Calls.mono HRH.out ?_
  rintro r w3 ⟨rfl, h3⟩
  clear HRH c0 c1
  go_wp2_with fail
  go_ret
  exact ⟨by cases t <;> simp, h3.out.1, HT2.out.trans h3.out.2⟩
set_option maxHeartbeats 800000 in
set_option maxRecDepth 100000 in
theorem heldPin_any {B U n : Nat} {w : World} {W i : Nat} {cs ls rs : Nat → Nat} {SC SL : Nat → Ca Value} {SR : Nat → Ca Int} {vc vl vr vo vw : Value} (h : Ws B U n w W cs ls rs SC SL SR vc vl vr vo vw) (hi : i < n) (ac : Alike ri (SC i) (SR i)) (al : Alike (lk w) (SL i) (SR i)) {m : Int} (hm : (Lit.int .i64 m).wf = true) (hU : U + 3 < 4611686018427387904) :
    Calls Try.prog 22 #[ptr W, .int .i64 5, .int .i64 (i : Int), .int .i64 m] w fun r w' => r = .returned (.bool true) ∧ After B (U + 1 + 1 + 1) n w W cs ls rs (at_ SC i ((SC i).pin m)) (at_ SL i ((SL i).pin m)) (at_ SR i ((SR i).pin m)) vc vl vr vo vw w' := by
  have hb : (SC i).has m = (SR i).has m := ac.has ri_fair m
  have hbl : (SL i).has m = (SR i).has m := al.has (lk_fair w) m
  have HA := h.call_c hi fun own k => pin_any k hm (by omega)
  rw [hb] at HA
  obtain ⟨gc, cc, rfl, c0, c1⟩ := h.cells_c hi
  obtain ⟨gl, cl, rfl, _, _⟩ := h.cells_l hi
  obtain ⟨gr, cr, rfl, _, _⟩ := h.cells_r hi
  have hiz : (i : Int) < (n : Int) := by omega
  have hnz : (n : Int) ≤ 30 := by have := h.few; omega
  have HBL : Hid ((SL i).has m = (SR i).has m) := hbl
  have HBC : Hid ((SC i).has m = (SR i).has m) := hb
  have HIN : Hid (i < n) := hi
  generalize ht : (SR i).has m = t at *
  have HAH : Hid (Calls Try.prog 18 #[ptr (cs i), .int .i64 m] w fun r w' => r = .returned (.bool t) ∧ Hid (After B (U + 1) n w W cs ls rs (at_ SC i _) SL SR (.slice (some ⟨gc, 0, none⟩) n cc) (.slice (some ⟨gl, 0, none⟩) n cl) (.slice (some ⟨gr, 0, none⟩) n cr) vo vw w')) := HA
  have HTT : Hid ((SR i).has m = t) := ht
  have htt : (t == t) = true := by simp
  clear HA hb hbl ac al h hi ht
  go_enter Try.func22, Try.ntmps22
  go_wp2_with fail
  refine Calls.mono HAH.out ?_
  rintro r w1 ⟨rfl, h1⟩
  clear HAH c0 c1
  obtain ⟨_, _, e1, c0, c1⟩ := h1.out.1.cells_l HIN.out
  cases e1
  have HLT := h1.out.1.call_l HIN.out fun own k => Li.pin_any k hm (by omega)
  rw [HBL.out] at HLT
  have HLH : Hid (Calls Try.prog 42 #[ptr (ls i), .int .i64 m] w1 fun r w' => r = .returned (.bool t) ∧ Hid (After B (U + 1 + 1) n w1 W cs ls rs (at_ SC i _) (at_ SL i _) SR (.slice (some ⟨gc, 0, none⟩) n cc) (.slice (some ⟨gl, 0, none⟩) n cl) (.slice (some ⟨gr, 0, none⟩) n cr) vo vw w')) := HLT
  have HT1 : Hid (Moves B w w1) := h1.out.2
  clear HLT h1
  go_wp2_with fail
  refine Calls.mono HLH.out ?_
  rintro r w2 ⟨rfl, h2⟩
  clear HLH c0 c1
  obtain ⟨_, _, e1, c0, c1⟩ := h2.out.1.cells_r HIN.out
  cases e1
  have HRT := h2.out.1.call_r HIN.out fun own k => refPin_any k m (by omega)
  rw [HTT.out] at HRT
  have HRH : Hid (Calls Try.prog 43 #[ptr (rs i), .int .i64 m] w2 fun r w' => r = .returned (.bool t) ∧ Hid (After B (U + 1 + 1 + 1) n w2 W cs ls rs (at_ SC i _) (at_ SL i _) (at_ SR i _) (.slice (some ⟨gc, 0, none⟩) n cc) (.slice (some ⟨gl, 0, none⟩) n cl) (.slice (some ⟨gr, 0, none⟩) n cr) vo vw w')) := HRT
  have HT2 : Hid (Moves B w w2) := HT1.out.trans h2.out.2
  clear h2 HRT HT1
  go_wp2_with fail
  refine Calls.mono HRH.out ?_
  rintro r w3 ⟨rfl, h3⟩
  clear HRH c0 c1
  go_wp2_with fail
  go_ret
  exact ⟨by cases t <;> simp, h3.out.1, HT2.out.trans h3.out.2⟩
set_option maxHeartbeats 800000 in
set_option maxRecDepth 100000 in
theorem heldUnpin_any {B U n : Nat} {w : World} {W i : Nat} {cs ls rs : Nat → Nat} {SC SL : Nat → Ca Value} {SR : Nat → Ca Int} {vc vl vr vo vw : Value} (h : Ws B U n w W cs ls rs SC SL SR vc vl vr vo vw) (hi : i < n) (ac : Alike ri (SC i) (SR i)) (al : Alike (lk w) (SL i) (SR i)) {m : Int} (hm : (Lit.int .i64 m).wf = true) {xc xl : Ca Value} {xr : Ca Int} (hxc : (if (SC i).canUnpin m = true then (SC i).unpin m else (SC i)) = xc) (hxl : (if (SL i).canUnpin m = true then (SL i).unpin m else (SL i)) = xl) (hxr : (if (SR i).canUnpin m = true then (SR i).unpin m else (SR i)) = xr) (hU : U + 3 < 4611686018427387904) :
    Calls Try.prog 22 #[ptr W, .int .i64 6, .int .i64 (i : Int), .int .i64 m] w fun r w' => r = .returned (.bool true) ∧ After B (U + 1 + 1 + 1) n w W cs ls rs (at_ SC i xc) (at_ SL i xl) (at_ SR i xr) vc vl vr vo vw w' := by
  have hb : (SC i).canUnpin m = (SR i).canUnpin m := ac.canUnpin ri_fair m
  have hbl : (SL i).canUnpin m = (SR i).canUnpin m := al.canUnpin (lk_fair w) m
  have HA := h.call_c hi fun own k => unpin_any k hm (by omega)
  rw [hxc, hb] at HA
  obtain ⟨gc, cc, rfl, c0, c1⟩ := h.cells_c hi
  obtain ⟨gl, cl, rfl, _, _⟩ := h.cells_l hi
  obtain ⟨gr, cr, rfl, _, _⟩ := h.cells_r hi
  have hiz : (i : Int) < (n : Int) := by omega
  have hnz : (n : Int) ≤ 30 := by have := h.few; omega
  have HBL : Hid ((SL i).canUnpin m = (SR i).canUnpin m) := hbl
  have HBC : Hid ((SC i).canUnpin m = (SR i).canUnpin m) := hb
  have HIN : Hid (i < n) := hi
  have HXL : Hid ((if (SL i).canUnpin m = true then (SL i).unpin m else (SL i)) = xl) := hxl
  have HXR : Hid ((if (SR i).canUnpin m = true then (SR i).unpin m else (SR i)) = xr) := hxr
  clear hxc hxl hxr
  generalize ht : (SR i).canUnpin m = t at HA HBL HBC
  have HAH : Hid (Calls Try.prog 44 #[ptr (cs i), .int .i64 m] w fun r w' => r = .returned (.bool t) ∧ Hid (After B (U + 1) n w W cs ls rs (at_ SC i _) SL SR (.slice (some ⟨gc, 0, none⟩) n cc) (.slice (some ⟨gl, 0, none⟩) n cl) (.slice (some ⟨gr, 0, none⟩) n cr) vo vw w')) := HA
  have HTT : Hid ((SR i).canUnpin m = t) := ht
  have htt : (t == t) = true := by simp
  clear HA hb hbl ac al h hi ht
  go_enter Try.func22, Try.ntmps22
  go_wp2_with fail
  refine Calls.mono HAH.out ?_
  rintro r w1 ⟨rfl, h1⟩
  clear HAH c0 c1
  obtain ⟨_, _, e1, c0, c1⟩ := h1.out.1.cells_l HIN.out
  cases e1
  have HLT := h1.out.1.call_l HIN.out fun own k => Li.unpin_any k hm (by omega)
  rw [HXL.out, HBL.out] at HLT
  have HLH : Hid (Calls Try.prog 45 #[ptr (ls i), .int .i64 m] w1 fun r w' => r = .returned (.bool t) ∧ Hid (After B (U + 1 + 1) n w1 W cs ls rs (at_ SC i _) (at_ SL i _) SR (.slice (some ⟨gc, 0, none⟩) n cc) (.slice (some ⟨gl, 0, none⟩) n cl) (.slice (some ⟨gr, 0, none⟩) n cr) vo vw w')) := HLT
  have HT1 : Hid (Moves B w w1) := h1.out.2
  clear HLT h1
  go_wp2_with fail
  refine Calls.mono HLH.out ?_
  rintro r w2 ⟨rfl, h2⟩
  clear HLH c0 c1
  obtain ⟨_, _, e1, c0, c1⟩ := h2.out.1.cells_r HIN.out
  cases e1
  have HRT := h2.out.1.call_r HIN.out fun own k => refUnpin_any k m (by omega)
  rw [HXR.out, HTT.out] at HRT
  have HRH : Hid (Calls Try.prog 46 #[ptr (rs i), .int .i64 m] w2 fun r w' => r = .returned (.bool t) ∧ Hid (After B (U + 1 + 1 + 1) n w2 W cs ls rs (at_ SC i _) (at_ SL i _) (at_ SR i _) (.slice (some ⟨gc, 0, none⟩) n cc) (.slice (some ⟨gl, 0, none⟩) n cl) (.slice (some ⟨gr, 0, none⟩) n cr) vo vw w')) := HRT
  have HT2 : Hid (Moves B w w2) := HT1.out.trans h2.out.2
  clear h2 HRT HT1
  go_wp2_with fail
  refine Calls.mono HRH.out ?_
  rintro r w3 ⟨rfl, h3⟩
  clear HRH c0 c1
  go_wp2_with fail
  go_ret
  exact ⟨by cases t <;> simp, h3.out.1, HT2.out.trans h3.out.2⟩
end Go.Proofs.Yteajgodpdfcioaa
