/- The document's answers for keys, further: Less, Same, Copy, Next, Between of banyanref04. -/
import Derived.Test.YtphohkchffcjeaaRef
namespace Go.Proofs.Ytphohkchffcjeaa
open Go.RowKit

theorem splice_copy (k : Key) : splice (List.replicate k.length (Value.int .u8 0)) 0 (k.map encB) = k.map encB := by
  simp [splice, List.drop_replicate]

set_option maxRecDepth 100000 in
theorem refLess_key {w : World} {u v : Value} {x y : Key} (hu : KeyAt w u x) (hv : KeyAt w v y) :
    Calls Try.prog 51 #[u, v] w fun e w' => e = .returned (.bool (decide (x < y))) ∧ ∃ q, w' = w.drewN q := by
  have HC := refCompare_key hu hv
  obtain ⟨a, ca, rfl, _⟩ := hu.is
  obtain ⟨b, cb, rfl, _⟩ := hv.is
  have HE : Hid (decide (cmpK x y < 0) = decide (x < y)) := by simp [Hid, cmpK_lt]
  clear hu hv
  go_enter Try.func51, Try.ntmps51
  go_wp2_with (go_at_call 33; refine HC.mono ?_; rintro e w' ⟨rfl, q, rfl⟩)
  go_ret
  exact ⟨ret_bool (by simpa using HE.out), q, rfl⟩
set_option maxRecDepth 100000 in
theorem refSame_key {w : World} {u v : Value} {x y : Key} (hu : KeyAt w u x) (hv : KeyAt w v y) :
    Calls Try.prog 62 #[u, v] w fun e w' => e = .returned (.bool (decide (x = y))) ∧ ∃ q, w' = w.drewN q := by
  have HC := refCompare_key hu hv
  obtain ⟨a, ca, rfl, _⟩ := hu.is
  obtain ⟨b, cb, rfl, _⟩ := hv.is
  have HE : Hid ((cmpK x y == 0) = decide (x = y)) := by
    rw [Hid, Bool.eq_iff_iff]
    simp [cmpK_eq]
  clear hu hv
  go_enter Try.func62, Try.ntmps62
  go_wp2_with (go_at_call 33; refine HC.mono ?_; rintro e w' ⟨rfl, q, rfl⟩)
  go_ret
  exact ⟨ret_bool (by simpa using HE.out), q, rfl⟩

set_option maxHeartbeats 800000 in
set_option maxRecDepth 100000 in
theorem refCopy_any {w : World} {v : Value} {k : Key} (h : KeyAt w v k) :
    Calls Try.prog 52 #[v] w fun e w' => ∃ v', e = .returned v' ∧ NewKey w.heap.size w' v' k ∧ Below w.heap.size w w' := by
  obtain ⟨i0, hi, hz0, hz1, hz2⟩ := info5'
  have hsz5 : (Try.prog.info? 5).map (·.size) = some 1 := by rw [hi]; simp [hz1]
  obtain ⟨⟨a, c, rfl, hb, _⟩, hk⟩ := h
  have HB : Hid (BytesAt w.heap.size w a k) := hb
  clear hb
  have hmin : (k.map encB).length = Nat.min k.length k.length := by rw [List.length_map]; exact (Nat.min_self _).symm
  have hfit : 0 + (k.map encB).length ≤ (List.replicate (k.length) (Value.int .u8 0)).length := by simp
  go_enter Try.func52, Try.ntmps52
  go_wp2_with (first
    | (at_make; refine wpList_make_full _ rfl _ _ 23 rfl w.heap.size 5 i0 (.int .u8 0) 1 Try.underlying23 hi hz0 hz1 _ _ _ _ (k.length) rfl rfl (by omega) (by omega) (by rw [hz2]; omega) (by unfold maxLen; omega) (Nat.le_refl _) ?_
       intro w0 hown0 hg0
       rw [madeBytes] at hown0
       have HR0 : Hid (w0.heap[w.heap.size]? = some (.cells (List.replicate (k.length) (Value.int .u8 0)).toArray 5 (0, 0))) := own_full hown0
       have HB0 : Hid (Below w.heap.size w w0) := (Below.refl _ _).grown hg0 (Nat.le_refl _) (fun k h => by cases h)
       clear hown0 hg0)
    | (refine wpList_copy_splice rfl _ _ 23 23 rfl 5 Try.underlying23 hsz5 _ _ _ _ _ _ rfl rfl w.heap.size 0 (List.replicate (k.length) (Value.int .u8 0)) 5 HR0.out (k.map encB) hmin (copy_src (HB.out.below HB0.out) _ _) hfit (oneB k) w.heap.size w HB0.out (Nat.le_refl _) ?_
       intro w2 hr2 hb2
       have HB2 : Hid (Below w.heap.size w w2) := hb2
       clear hb2))
  go_ret
  rw [splice_copy] at hr2
  refine ⟨_, rfl, ⟨?_, hk⟩, HB2.out⟩
  have := own_block (base := w.heap.size) hr2.out (n := k.length) (by simp) (Nat.le_refl _) (by unfold maxLen; omega)
  exact this

set_option maxHeartbeats 800000 in
set_option maxRecDepth 100000 in
theorem refNext_any {w : World} {v : Value} {k : Key} (h : KeyAt w v k) (hk : k.length + 1 ≤ 140737488355328) :
    Calls Try.prog 30 #[v] w fun e w' => ∃ v', e = .returned v' ∧ NewKey w.heap.size w' v' (k ++ [0]) ∧ Below w.heap.size w w' := by
  obtain ⟨i0, hi, hz0, hz1, hz2⟩ := info5'
  have hsz5 : (Try.prog.info? 5).map (·.size) = some 1 := by rw [hi]; simp [hz1]
  obtain ⟨⟨a, c, rfl, hb, _⟩, _⟩ := h
  have HB : Hid (BytesAt w.heap.size w a k) := hb
  clear hb
  have hmin : (k.map encB).length = Nat.min k.length (k.length + 1) := by rw [List.length_map]; exact (Nat.min_eq_left (by omega)).symm
  have hfit : 0 + (k.map encB).length ≤ (List.replicate (k.length + 1) (Value.int .u8 0)).length := by simp
  go_enter Try.func30, Try.ntmps30
  go_wp2_with (first
    | (at_make; refine wpList_make_full _ rfl _ _ 23 rfl w.heap.size 5 i0 (.int .u8 0) 1 Try.underlying23 hi hz0 hz1 _ _ _ _ (k.length + 1) rfl rfl (by omega) (by omega) (by rw [hz2]; omega) (by unfold maxLen; omega) (Nat.le_refl _) ?_
       intro w0 hown0 hg0
       rw [madeBytes] at hown0
       have HR0 : Hid (w0.heap[w.heap.size]? = some (.cells (List.replicate (k.length + 1) (Value.int .u8 0)).toArray 5 (0, 0))) := own_full hown0
       have HB0 : Hid (Below w.heap.size w w0) := (Below.refl _ _).grown hg0 (Nat.le_refl _) (fun k h => by cases h)
       clear hown0 hg0)
    | (refine wpList_copy_splice rfl _ _ 23 23 rfl 5 Try.underlying23 hsz5 _ _ _ _ _ _ rfl rfl w.heap.size 0 (List.replicate (k.length + 1) (Value.int .u8 0)) 5 HR0.out (k.map encB) hmin (copy_src (HB.out.below HB0.out) _ _) hfit (oneB k) w.heap.size w HB0.out (Nat.le_refl _) ?_
       intro w2 hr2 hb2
       have HB2 : Hid (Below w.heap.size w w2) := hb2
       clear hb2))
  go_ret
  rw [splice_next] at hr2
  have hl : (k ++ [0]).length = k.length + 1 := by simp
  refine ⟨_, rfl, ⟨?_, by rw [hl]; exact hk⟩, HB2.out⟩
  have := own_block (base := w.heap.size) hr2.out (n := k.length + 1) (by simp) (Nat.le_refl _) (by unfold maxLen; omega)
  rw [hl]
  exact this

set_option maxHeartbeats 800000 in
set_option maxRecDepth 100000 in
theorem refBetween_any {w : World} {u v : Value} {x y : Key} (hu : KeyAt w u x) (hv : KeyAt w v y) :
    Calls Try.prog 31 #[u, v] w fun e w' => Below w.heap.size w w' ∧ ((x < y ∧ ∃ k, e = .returned (.tuple #[k, .int .i64 0]) ∧ NewKey w.heap.size w' k (midK x y)) ∨ (¬ x < y ∧ e = .returned (.tuple #[.slice none 0 0, .int .i64 41]))) := by
  have HU : Hid (KeyAt w u x) := hu
  have HV : Hid (KeyAt w v y) := hv
  obtain ⟨a1, c1, rfl, _⟩ := hu.is
  obtain ⟨a2, c2, rfl, hb2, hc2, hn2⟩ := hv.is
  have hsy := hv.short
  have HB2 : Hid (BytesAt w.heap.size w a2 y) := hb2
  clear hu hv hb2
  by_cases hlt : x < y
  · have hz : ¬ 0 ≤ cmpK x y := fun h => by have := cmpK_ge.1 h; grind
    have hz2 : cmpK x y < 0 := cmpK_lt.2 hlt
    have hml := midK_length x y hlt
    have hcy : comK x y < y.length := by
      have := (lt_iff_com x y).1 hlt
      rcases this with ⟨_, h⟩ | ⟨_, h, _⟩ <;> exact h
    obtain ⟨m, hm⟩ : ∃ m, m = comK x y := ⟨_, rfl⟩
    have HCM : Hid (comK x y = m) := hm.symm
    rw [← hm] at hml hcy
    clear hm
    have hcc : ((m : Int) + 1) ≤ (c2 : Int) := by omega
    have HMID : Hid (midK x y = y.take (m + 1)) := by rw [← HCM.out]; rfl
    go_enter Try.func31, Try.ntmps31
    go_wp2_with fail
    refine (refCompare_key HU.out HV.out).mono ?_
    rintro e _ ⟨rfl, q, rfl⟩
    go_wp2_with fail
    refine (refCommon_key (HU.out.draws q) (HV.out.draws q)).mono ?_
    rintro e _ ⟨rfl, q2, rfl⟩
    rw [HCM.out]
    go_wp2_with fail
    refine (refCopy_any (w := w.drewN (q + q2)) (k := midK x y) ⟨⟨a2, c2, by rw [hml], ?_, by omega, hn2⟩, by omega⟩).mono ?_
    · rw [HMID.out]
      exact (HB2.out.here (below_draws (Below.refl _ _) _)).take _
    rintro e w3 ⟨k, rfl, hk, hb3⟩
    have HKN : Hid (NewKey w.heap.size w3 k (midK x y)) := hk
    have HB3 : Hid (Below w.heap.size w w3) := (below_draws (Below.refl _ _) _).trans hb3
    clear hk hb3
    go_wp2
    go_ret2
    exact ⟨HB3.out, .inl ⟨hlt, k, rfl, HKN.out⟩⟩
  · have hz : 0 ≤ cmpK x y := cmpK_ge.2 (by grind)
    go_enter Try.func31, Try.ntmps31
    go_wp2_with (go_at_call 33; refine (refCompare_key HU.out HV.out).mono ?_; rintro e _ ⟨rfl, q, rfl⟩)
    go_ret2
    exact ⟨below_draws (Below.refl _ _) q, .inr ⟨hlt, rfl⟩⟩
end Go.Proofs.Ytphohkchffcjeaa
