/- The document's Unpin, Get, Put. -/
import Derived.Test.YteajgodpdfcioaaRefOps
import Derived.Deep.RegionLaw
namespace Go.Proofs.Yteajgodpdfcioaa
open Go.RowKit

set_option maxHeartbeats 400000 in
set_option maxRecDepth 100000 in
theorem refUnpin_any {U : Nat} {own : Nat → Prop} {w : World} {b : Nat} {s : Ca Int} (h : RefAt U own w b s) (n : Int) (hU : U < 4611686018427387904) : Calls Try.prog 46 #[ptr b, .int .i64 n] w fun r w' => r = .returned (.bool (s.canUnpin n)) ∧ RNext U own w b (if s.canUnpin n = true then s.unpin n else s) w' := by
  obtain ⟨lv, h, ho⟩ := h
  have HF := refFind_any h n
  have hself : RNext U own w b s w := rnext_mk ho (h.mono (Nat.le_succ _)) (fun k hk => .inl hk) (Kept.refl _ _)
  rcases th_or s.L n with ⟨A, t, B, hL, rfl⟩ | hno
  · have hnum := h.nums
    rw [hL] at hnum
    obtain ⟨f1, f2, f3, f4, f5, f6⟩ := th_at hnum
    rw [hL, f1] at HF
    have e1 : s.canUnpin t.n = (t.pins != 0) := by unfold Ca.canUnpin; rw [hL, f2]
    rw [e1]
    obtain ⟨a, c, rfl⟩ := own_slice h.row
    obtain ⟨g, rfl, _, hg, t0, t1, t2, tf⟩ := th_cell h.row (by rw [hL]; exact f5)
    have c3 : w.cell? ⟨b, 3, none⟩ = some (.slice (some ⟨g, 0, none⟩) s.L.length c) := by rw [row_cell h.cells]; rfl
    have HFH : Hid (Calls Try.prog 48 #[ptr b, .int .i64 t.n] w fun r w' => r = .returned (.int .i64 (A.length : Int)) ∧ w' = w) := HF
    have hz : ¬ (A.length : Int) < 0 := by omega
    have hz2 : (A.length : Int) < (s.L.length : Int) := by rw [hL]; simp; omega
    have hz3 : (A.length : Int) ≤ 65536 := by have h1 := h.room; have h2 := h.places.2; omega
    by_cases hp : t.pins = 0
    · have e2 : (t.pins != 0) = false := by simp [hp]
      rw [e2]
      have HX : Hid (RNext U own w b s w) := hself
      have t2' : w.cell? ⟨g, A.length * 3 + 2, none⟩ = some (.int .i64 0) := by rw [t2, hp]; rfl
      clear HF h ho f1 f2 f3 f4 f5 f6 e1 e2 hnum hL hself t2 hp
      go_enter Try.func46, Try.ntmps46
      go_wp2_with fail
      refine Calls.mono HFH.out ?_
      rintro r w1 ⟨rfl, hw1⟩
      obtain rfl := hw1.symm
      clear hw1 HFH
      go_wp2_with fail
      go_ret
      exact ⟨rfl, HX.out⟩
    · have e2 : (t.pins != 0) = true := by simp [hp]
      rw [e2]
      obtain ⟨j, hj⟩ : ∃ j, t.pins = j + 1 := ⟨t.pins - 1, by omega⟩
      have hpb := h.caps.2.2 t (by rw [hL]; simp)
      have HX : Hid (RNext U own w b (s.unpin t.n) (w.setCell ⟨g, A.length * 3 + 2, none⟩ (.int .i64 (j : Int)))) := by
        have hres := rnext_pins h ho hL (p := j) (by omega)
        have e2 : s.unpin t.n = { s with L := A ++ { t with pins := j } :: B } := by
          unfold Ca.unpin
          rw [hL, map_at f6 (fun x => { x with pins := x.pins - 1 })]
          simp [hj]
        rw [e2]
        exact hres
      obtain ⟨m, hm⟩ : ∃ m : Int, m = (t.pins : Int) := ⟨_, rfl⟩
      obtain ⟨i, hi⟩ : ∃ i : Int, i = (j : Int) := ⟨_, rfl⟩
      rw [← hm] at t2
      rw [← hi] at HX
      have m1 : m - 1 = i := by omega
      have m2 : 0 < m := by omega
      have m3 : m ≤ 4611686018427387904 := by omega
      have m4 : ¬ m = 0 := by omega
      have m5 : (m == 0) = false := by simpa using m4
      clear HF h ho f1 f2 f3 f4 f5 f6 e1 e2 hnum hL hself hp hj hm hi hpb hU
      go_enter Try.func46, Try.ntmps46
      go_wp2_with fail
      refine Calls.mono HFH.out ?_
      rintro r w1 ⟨rfl, hw1⟩
      obtain rfl := hw1.symm
      clear hw1 HFH
      go_wp2_with fail
      go_ret
      exact ⟨rfl, HX.out⟩
  · obtain ⟨f1, f2, f3⟩ := th_not hno
    rw [f1] at HF
    have e1 : s.canUnpin n = false := by unfold Ca.canUnpin; rw [f2]
    rw [e1]
    have HX : Hid (RNext U own w b s w) := hself
    have HFH : Hid (Calls Try.prog 48 #[ptr b, .int .i64 n] w fun r w' => r = .returned (.int .i64 (-1)) ∧ w' = w) := HF
    clear HF h ho f1 f2 f3 e1 hno hself
    go_enter Try.func46, Try.ntmps46
    go_wp2_with fail
    refine Calls.mono HFH.out ?_
    rintro r w1 ⟨rfl, hw1⟩
    obtain rfl := hw1.symm
    clear hw1 HFH
    go_wp2_with fail
    go_ret
    exact ⟨rfl, HX.out⟩
/-- One thing more at the end, and the list laid into its cell: w2 is the world ahead of the append, w3 behind it. -/
theorem rnext_end {U : Nat} {own : Nat → Prop} {w w2 w3 : World} {b g c base : Nat} {lv l2 : Value} {E : List (Th Int)} {t : Th Int} {P Hh Mm : Nat} (ho : ∀ k, own k ↔ (k = b ∨ lv.ownBlock = some k))
    (hk : Kept (fun k => k = b ∨ lv.ownBlock = some k) w w2) (hc : w2.heap[b]? = some (.cells #[.int .i64 (P : Int), .int .i64 (Hh : Int), .int .i64 (Mm : Int), l2] 64 (0, 0))) (hrow2 : NewT base w2 l2 E) (hv : ∀ k, l2.ownBlock = some k → lv.ownBlock = some k ∨ w.heap.size ≤ k)
    (hrow : w3.ownsRow base 89 3 (.slice (some ⟨g, 0, none⟩) (E.length + 1) c) (E.length + 1) (flatT E ++ encT t)) (hg : w2.grownBy w3 l2.ownBlock) (hat : l2.ownBlock = some g ∨ g = w2.heap.size)
    (nums : ((E ++ [t]).map Th.n).Nodup) (room : E.length + 1 ≤ P) (places : 1 ≤ P ∧ P ≤ 65536) (caps : Hh ≤ U + 1 ∧ Mm ≤ U + 1 ∧ ∀ q ∈ E ++ [t], q.pins ≤ U + 1) :
    RNext U own w b ⟨P, Hh, Mm, E ++ [t]⟩ (w3.setCell ⟨b, 3, none⟩ (.slice (some ⟨g, 0, none⟩) (E.length + 1) c)) := by
  have hb2 : b < w2.heap.size := (Array.getElem?_eq_some_iff.1 hc).1
  have hbo : l2.ownBlock ≠ some b := fun e => by
    obtain ⟨_, _, cur, hcur⟩ := own_type hrow2 b e
    rw [hc] at hcur
    simp at hcur
  have hb3 : w3.heap[b]? = some (.cells #[.int .i64 (P : Int), .int .i64 (Hh : Int), .int .i64 (Mm : Int), l2] 64 (0, 0)) := (hg.block b hb2 (fun e => hbo e.symm)).trans hc
  have hgb : g ≠ b := fun e => by
    rcases hat with h | h
    · exact hbo (e ▸ h)
    · omega
  refine rnext_mk ho (lv' := .slice (some ⟨g, 0, none⟩) (E.length + 1) c) ⟨(heap_set_same _ hb3).trans (by simp), ?_, nums, by simpa using room, places, caps⟩ (fun k hk' => ?_) ?_
  · show (w3.setCell _ _).ownsRow 0 _ _ _ (E ++ [t]).length (flatT (E ++ [t]))
    rw [List.length_append, flatT_append]
    have h1 : w3.ownsRow 0 89 3 (.slice (some ⟨g, 0, none⟩) (E.length + 1) c) (E.length + 1) (flatT E ++ flatT [t]) := by
      have e : flatT [t] = encT t := by simp [flatT]
      rw [e]
      exact own_mono hrow (Nat.zero_le _)
    exact own_kept h1 (setCell_kept _) (fun j hj e => by cases hj; exact hgb e)
  · cases hk'
    rcases hat with h | h
    · exact hv g h
    · have := hk.size
      exact .inr (show w.heap.size ≤ g by omega)
  · refine (hk.trans (Kept.of_grown (S := fun k => l2.ownBlock = some k) hg (fun _ e => e)) (fun i hi e => ?_)).trans (setCell_kept _) (fun i _ e => .inl e)
    rcases hv i e with h | h
    · exact .inr h
    · omega
set_option maxHeartbeats 800000 in
set_option maxRecDepth 100000 in
theorem refGet_any {U : Nat} {own : Nat → Prop} {w : World} {b : Nat} {s : Ca Int} (h : RefAt U own w b s) (n : Int) (hU : U < 4611686018427387904) : Calls Try.prog 24 #[ptr b, .int .i64 n] w fun r w' => r = .returned (.tuple #[.int .i64 (match findT n s.L with | none => 0 | some t => t.x), .bool (s.has n)]) ∧ RNext U own w b (s.get n) w' := by
  obtain ⟨lv, h, ho⟩ := h
  have HF := refFind_any h n
  rcases th_or s.L n with ⟨A, t, B, hL, rfl⟩ | hno
  · have hnum := h.nums
    rw [hL] at hnum
    obtain ⟨f1, f2, f3, f4, f5, f6⟩ := th_at hnum
    rw [hL, f1] at HF
    have e1 : s.has t.n = true := by unfold Ca.has; rw [hL, f2]; rfl
    rw [e1, hL, f2]
    obtain ⟨i0, hi, hz0, hz1, hz2⟩ := infoT
    obtain ⟨a, c, rfl⟩ := own_slice h.row
    obtain ⟨w1, hw1⟩ : ∃ w1, w1 = w.setCell ⟨b, 1, none⟩ (.int .i64 ((s.hits : Int) + 1)) := ⟨_, rfl⟩
    have hc1 : w1.heap[b]? = some (.cells #[.int .i64 (s.places : Int), .int .i64 ((s.hits + 1 : Nat) : Int), .int .i64 (s.misses : Int), .slice a s.L.length c] 64 (0, 0)) := by rw [hw1]; exact (heap_set_same _ h.cells).trans (by simp)
    have k1 : Kept (fun k => k = b) w w1 := by rw [hw1]; exact setCell_kept _
    have hap := h.apart
    have r1 : RefIs (U + 1) w1 b (.slice a s.L.length c) { s with hits := s.hits + 1 } := ⟨hc1, own_kept h.row k1 (fun j hj e => hap (e ▸ hj)), h.nums, h.room, h.places, by obtain ⟨c1, c2, c3⟩ := h.caps; exact ⟨by show s.hits + 1 ≤ _; omega, by show s.misses ≤ _; omega, fun q hq => by have := c3 q hq; omega⟩⟩
    obtain ⟨g, rfl, _, hg, t0, t1, t2, tf⟩ := th_cell (k := A.length) (u := t) r1.row (by show s.L[A.length]? = _; rw [hL]; exact f5)
    have c3 : w1.cell? ⟨b, 3, none⟩ = some (.slice (some ⟨g, 0, none⟩) s.L.length c) := by rw [row_cell hc1]; rfl
    have d1 : w.cell? ⟨b, 1, none⟩ = some (.int .i64 (s.hits : Int)) := by rw [row_cell h.cells]; rfl
    have fd1 : w.frozen? ⟨b, 1, none⟩ = false := row_frozen h.cells _
    obtain ⟨wt, hwt⟩ : ∃ wt, wt = w1.alloc (.cells #[.int .i64 t.n, .int .i64 t.x, .int .i64 (t.pins : Int)] 89) := ⟨_, rfl⟩
    have hbt : Below w1.heap.size w1 wt := by rw [hwt]; exact below_new _ _
    have hlt : wt.heap[w1.heap.size]? = some (.cells #[.int .i64 t.n, .int .i64 t.x, .int .i64 (t.pins : Int)] 89 (0, 0)) := by rw [hwt]; exact heap_alloc_last _ _
    have rt : RefIs (U + 1) wt b (.slice (some ⟨g, 0, none⟩) s.L.length c) { s with hits := s.hits + 1 } := r1.same fun k hk => hbt.block k (by
      rcases hk with rfl | hk
      · exact (Array.getElem?_eq_some_iff.1 hc1).1
      · exact (own_type r1.row k hk).1)
    have HO := refOut_any rt (i := A.length) (by show A.length < s.L.length; rw [hL]; simp)
    have HOH : Hid (Calls Try.prog 49 #[ptr b, .int .i64 (A.length : Int)] wt fun r w' => r = .returned (.tuple #[]) ∧ ∃ lv', NewT wt.heap.size w' lv' (A ++ B) ∧ w'.heap[b]? = some (.cells #[.int .i64 (s.places : Int), .int .i64 ((s.hits + 1 : Nat) : Int), .int .i64 (s.misses : Int), lv'] 64 (0, 0)) ∧ Kept (fun k => k = b) wt w') := by
      have e2 : (Ca.mk s.places (s.hits + 1) s.misses s.L).L.eraseIdx A.length = A ++ B := by show s.L.eraseIdx A.length = _; rw [hL, f4]
      rw [e2] at HO
      exact HO
    have HFH : Hid (Calls Try.prog 48 #[ptr b, .int .i64 t.n] w fun r w' => r = .returned (.int .i64 (A.length : Int)) ∧ w' = w) := HF
    have hz : ¬ (A.length : Int) < 0 := by omega
    have hz2' : (A.length : Int) < (s.L.length : Int) := by rw [hL]; simp; omega
    have hz3 : (A.length : Int) ≤ 65536 := by have h1 := h.room; have h2 := h.places.2; omega
    have hhb : (s.hits : Int) < 4611686018427387904 := by have := h.caps.1; omega
    have hllen : (A ++ B).length + 1 = s.L.length := by rw [hL]; simp; omega
    have HEND : Hid (∀ w2 w3 l2 g3 c3, Kept (fun k => k = b) wt w2 → w2.heap[b]? = some (.cells #[.int .i64 (s.places : Int), .int .i64 ((s.hits + 1 : Nat) : Int), .int .i64 (s.misses : Int), l2] 64 (0, 0)) → NewT wt.heap.size w2 l2 (A ++ B) → w3.ownsRow wt.heap.size 89 3 (.slice (some ⟨g3, 0, none⟩) ((A ++ B).length + 1) c3) ((A ++ B).length + 1) (flatT (A ++ B) ++ encT t) → w2.grownBy w3 l2.ownBlock → (l2.ownBlock = some g3 ∨ g3 = w2.heap.size) → RNext U own w b (s.get t.n) (w3.setCell ⟨b, 3, none⟩ (.slice (some ⟨g3, 0, none⟩) ((A ++ B).length + 1) c3))) := fun w2 w3 l2 g3 c3 q1 q2 q3 q4 q5 q6 => by
      have e2 : s.get t.n = ⟨s.places, s.hits + 1, s.misses, (A ++ B) ++ [t]⟩ := by unfold Ca.get; rw [hL, f2, f3]
      rw [e2]
      have hkw : Kept (fun k => k = b) w w2 := (k1.trans (Kept.of_below (S := fun k => k = b) hbt) (fun _ _ e => e)).trans q1 (fun _ _ e => e)
      refine rnext_end ho (hkw.mono fun i _ e => .inl e) q2 q3 (fun k hk => .inr ?_) q4 q5 q6 ?_ ?_ h.places ?_
      · have h1 := (own_type q3 k hk).2.1
        have h2 := k1.size
        have h3 := hbt.size
        omega
      · have h1 := h.nums
        rw [hL] at h1
        have h2 : (A.map Th.n ++ t.n :: B.map Th.n).Nodup := by simpa using h1
        have h3 : ((A.map Th.n ++ B.map Th.n) ++ [t.n]).Perm (A.map Th.n ++ t.n :: B.map Th.n) := by
          rw [List.append_assoc]
          exact List.Perm.append_left _ (List.perm_append_singleton _ _)
        have := h3.nodup_iff.2 h2
        simpa using this
      · rw [hllen]; exact h.room
      · obtain ⟨c1, c2, c3⟩ := h.caps
        refine ⟨by omega, by omega, fun q hq => ?_⟩
        have := c3 q (by rw [hL]; simp at hq ⊢; grind)
        omega
    have hl2 : (A ++ B).length ≤ 65536 := by have h1 := h.room; have h2 := h.places.2; omega
    have HRL : Hid ((A ++ B).length ≤ 65536) := hl2
    have HBT : Hid (wt.heap[w1.heap.size]? = some (.cells #[.int .i64 t.n, .int .i64 t.x, .int .i64 (t.pins : Int)] 89 (0, 0))) := hlt
    have hwl : w1.heap.size < wt.heap.size := (Array.getElem?_eq_some_iff.1 hlt).1
    have hbl : b < wt.heap.size := by have h1 := (Array.getElem?_eq_some_iff.1 hc1).1; omega
    have hbw : b ≠ w1.heap.size := by have h1 := (Array.getElem?_eq_some_iff.1 hc1).1; omega
    clear HF HO h ho f1 f2 f3 f4 f5 f6 e1 hnum r1 rt hbt hlt hc1 k1 hap hllen hl2 hU
    generalize hE : A ++ B = E at *
    clear hE hL
    have HCT : Hid (w1.cell? ⟨b, 3, none⟩ = some (.slice (some ⟨g, 0, none⟩) s.L.length c) ∧ w1.cell? ⟨g, A.length * 3, none⟩ = some (.int .i64 t.n) ∧ w1.cell? ⟨g, A.length * 3 + 1, none⟩ = some (.int .i64 t.x) ∧ w1.cell? ⟨g, A.length * 3 + 2, none⟩ = some (.int .i64 (t.pins : Int))) := ⟨c3, t0, t1, t2⟩
    have HWT : Hid (wt = w1.alloc (.cells #[.int .i64 t.n, .int .i64 t.x, .int .i64 (t.pins : Int)] 89)) := hwt
    have HWL : Hid (w1.heap.size < wt.heap.size ∧ b < wt.heap.size ∧ b ≠ w1.heap.size) := ⟨hwl, hbl, hbw⟩
    clear c3 t0 t1 t2 tf hwt hwl hbl hbw hg
    obtain ⟨hh, hhh⟩ : ∃ hh : Int, hh = (s.hits : Int) := ⟨_, rfl⟩
    rw [← hhh] at d1 hw1
    have hh1 : 0 ≤ hh := by omega
    have hh2 : hh ≤ 4611686018427387904 := by omega
    clear hhb hhh
    go_enter Try.func24, Try.ntmps24
    go_wp2_with fail
    refine Calls.mono HFH.out ?_
    rintro r wq ⟨rfl, hwq⟩
    obtain rfl := hwq.symm
    clear hwq HFH
    go_upto_region 6 with fail
    rw [← hw1]
    clear hw1 d1 fd1
    obtain ⟨c3, t0, t1, t2⟩ := HCT.out
    clear HCT
    go_upto_region 7 with fail
    rw [← HWT.out]
    clear HWT t0 t1 t2 c3
    obtain ⟨hwl, hbl, hbw⟩ := HWL.out
    go_wp2_with fail
    refine Calls.mono HOH.out ?_
    rintro r w5 ⟨rfl, l5, r5, q5, k5⟩
    clear HOH
    obtain ⟨a5, c5, rfl⟩ := own_slice r5
    have hbt5 : w5.heap[w1.heap.size]? = _ := (k5.block _ hwl (Ne.symm hbw)).trans HBT.out
    have s0 : w5.cell? ⟨w1.heap.size, 0, none⟩ = some (.int .i64 t.n) := by rw [row_cell hbt5]; rfl
    have s1 : w5.cell? ⟨w1.heap.size, 1, none⟩ = some (.int .i64 t.x) := by rw [row_cell hbt5]; rfl
    have s2 : w5.cell? ⟨w1.heap.size, 2, none⟩ = some (.int .i64 (t.pins : Int)) := by rw [row_cell hbt5]; rfl
    have s3 : w5.cell? ⟨b, 3, none⟩ = some (.slice a5 E.length c5) := by rw [row_cell q5]; rfl
    have f3 : w5.frozen? ⟨b, 3, none⟩ = false := row_frozen q5 _
    have HR5 : Hid (NewT wt.heap.size w5 (.slice a5 E.length c5) E) := r5
    have HQ5 : Hid (w5.heap[b]? = some (.cells #[.int .i64 (s.places : Int), .int .i64 ((s.hits + 1 : Nat) : Int), .int .i64 (s.misses : Int), .slice a5 E.length c5] 64 (0, 0))) := q5
    have HK5 : Hid (Kept (fun k => k = b) wt w5) := k5
    have HT5 : Hid (w5.heap[w1.heap.size]? = some (.cells #[.int .i64 t.n, .int .i64 t.x, .int .i64 (t.pins : Int)] 89 (0, 0))) := hbt5
    clear r5 q5 k5 hbt5
    obtain ⟨w6, hw6⟩ : ∃ w6, w6 = (w5.alloc (.cells #[.int .i64 t.n, .int .i64 t.x, .int .i64 (t.pins : Int)] 89)).drew := ⟨_, rfl⟩
    have hb6 : Below w5.heap.size w5 w6 := by rw [hw6]; exact (below_new w5 _).drew
    have HR6 : Hid (NewT wt.heap.size w6 (.slice a5 E.length c5) E) := own_here HR5.out hb6
    have HB6 : Hid (Below w5.heap.size w5 w6) := hb6
    have HW6 : Hid (w6 = (w5.alloc (.cells #[.int .i64 t.n, .int .i64 t.x, .int .i64 (t.pins : Int)] 89)).drew) := hw6
    clear hb6 hw6
    have HNEW : Hid (∀ (j : Nat) (u : Value), (encT t)[j]? = some u → w6.cell? ((⟨w5.heap.size, 0, none⟩ : Addr).add j) = some u) := fun j u hj => by
      rw [add_at, HW6.out]
      exact (row_cell (heap_alloc_last w5 _) (0 + j)).trans (by rw [Nat.zero_add, ← Array.getElem?_toList]; exact hj)
    have HSZ : Hid (wt.heap.size ≤ w6.heap.size) := Nat.le_trans HK5.out.size HB6.out.size
    have hs6 : w5.heap.size ≤ w6.heap.size := HB6.out.size
    have hbw5 : b < w5.heap.size := by have := HK5.out.size; omega
    have hwl5 : w1.heap.size < w5.heap.size := by have := HK5.out.size; omega
    have HNB : Hid ((Value.slice a5 E.length c5).ownBlock ≠ some b ∧ (Value.slice a5 E.length c5).ownBlock ≠ some w1.heap.size) := by
      refine ⟨fun e => ?_, fun e => ?_⟩
      · have := (own_type HR5.out b e).2.1
        omega
      · have := (own_type HR5.out _ e).2.1
        omega
    have HKW : Hid (Kept (fun k => k = b) wt w6) := (HK5.out.trans (Kept.of_below (S := fun k => k = b) HB6.out) (fun _ _ e => e))
    have HQ6 : Hid (w6.heap[b]? = some (.cells #[.int .i64 (s.places : Int), .int .i64 ((s.hits + 1 : Nat) : Int), .int .i64 (s.misses : Int), .slice a5 E.length c5] 64 (0, 0))) := (HB6.out.block b hbw5).trans HQ5.out
    go_wp2_with fail
    go_region_law
      (first
        | (rw [← HW6.out]
           refine step_append_lies _ (by rfl) _ _ 62 (by rfl) wt.heap.size 89 i0 _ 3 24 Try.underlying62 hi hz0 hz1 hz2 rfl (by decide) (.slice a5 E.length c5) E.length (flatT E) (by rfl) (by exact HR6.out) ⟨w5.heap.size, 0, none⟩ 1 1 (encT t) (by rfl) rfl (by exact HNEW.out) (by exact encT_one t) (by decide) (by have := HRL.out; unfold maxLen; omega) (by have := HRL.out; omega) (by exact HSZ.out) _ rfl ?_
           intro g7 c7 w7 ho7 hg7 hat7 hlt7
           have HO7 : Hid (w7.ownsRow wt.heap.size 89 3 (.slice (some ⟨g7, 0, none⟩) (E.length + 1) c7) (E.length + 1) (flatT E ++ encT t)) := ho7
           have HG7 : Hid (w6.grownBy w7 (Value.slice a5 E.length c5).ownBlock) := hg7
           have HA7 : Hid ((Value.slice a5 E.length c5).ownBlock = some g7 ∨ g7 = w6.heap.size) := hat7
           have hb7 : w7.heap[b]? = _ := (hg7.block b (by omega) (fun e => HNB.out.1 e.symm)).trans ((HB6.out.block b hbw5).trans HQ5.out)
           have ht7 : w7.heap[w1.heap.size]? = _ := (hg7.block w1.heap.size (by omega) (fun e => HNB.out.2 e.symm)).trans ((HB6.out.block _ hwl5).trans HT5.out)
           have p3 : w7.cell? ⟨b, 3, none⟩ = some (.slice a5 E.length c5) := by rw [row_cell hb7]; rfl
           have pf : w7.frozen? ⟨b, 3, none⟩ = false := row_frozen hb7 _
           have p0 : w7.cell? ⟨w1.heap.size, 0, none⟩ = some (.int .i64 t.n) := by rw [row_cell ht7]; rfl
           have p1 : w7.cell? ⟨w1.heap.size, 1, none⟩ = some (.int .i64 t.x) := by rw [row_cell ht7]; rfl
           have p2 : w7.cell? ⟨w1.heap.size, 2, none⟩ = some (.int .i64 (t.pins : Int)) := by rw [row_cell ht7]; rfl
           clear ho7 hg7 hat7 hlt7 hb7 ht7))
    all_goals
      go_wp2_with fail
      go_ret2
      exact ⟨rfl, HEND.out w6 _ _ _ _ HKW.out HQ6.out HR6.out HO7.out HG7.out HA7.out⟩
  · obtain ⟨f1, f2, f3⟩ := th_not hno
    rw [f1] at HF
    have e1 : s.has n = false := by unfold Ca.has; rw [f2]; rfl
    have e2 : s.get n = { s with misses := s.misses + 1 } := by unfold Ca.get; rw [f2]
    rw [e1, e2, f2]
    have d2 : w.cell? ⟨b, 2, none⟩ = some (.int .i64 (s.misses : Int)) := by rw [row_cell h.cells]; rfl
    have fd2 : w.frozen? ⟨b, 2, none⟩ = false := row_frozen h.cells _
    have hmb : (s.misses : Int) < 4611686018427387904 := by have := h.caps.2.1; omega
    have HX : Hid (RNext U own w b { s with misses := s.misses + 1 } (w.setCell ⟨b, 2, none⟩ (.int .i64 ((s.misses : Int) + 1)))) := by
      obtain ⟨c1, c2, c3⟩ := h.caps
      exact rnext_mk ho ⟨(heap_set_same _ h.cells).trans (by simp), own_kept h.row (setCell_kept _) (fun j hj e => h.apart (e ▸ hj)), h.nums, h.room, h.places, ⟨by show s.hits ≤ _; omega, by show s.misses + 1 ≤ _; omega, fun q hq => by have := c3 q hq; omega⟩⟩ (fun k hk => .inl hk) ((setCell_kept _).mono fun i _ e => .inl e)
    have HFH : Hid (Calls Try.prog 48 #[ptr b, .int .i64 n] w fun r w' => r = .returned (.int .i64 (-1)) ∧ w' = w) := HF
    clear HF h ho f1 f2 f3 e1 e2 hno
    go_enter Try.func24, Try.ntmps24
    go_wp2_with fail
    refine Calls.mono HFH.out ?_
    rintro r w1 ⟨rfl, hw1⟩
    obtain rfl := hw1.symm
    clear hw1 HFH
    go_wp2_with fail
    go_ret2
    exact ⟨rfl, HX.out⟩
end Go.Proofs.Yteajgodpdfcioaa
