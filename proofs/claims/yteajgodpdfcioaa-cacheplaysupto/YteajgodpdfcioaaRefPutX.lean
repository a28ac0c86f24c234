/- The document's Put. -/
import Derived.Test.YteajgodpdfcioaaRefPut
namespace Go.Proofs.Yteajgodpdfcioaa
open Go.RowKit

set_option maxHeartbeats 800000 in
set_option maxRecDepth 100000 in
theorem refPut_in {U : Nat} {own : Nat → Prop} {w : World} {b : Nat} {lv : Value} {s : Ca Int} (h : RefIs U w b lv s) (ho : ∀ k, own k ↔ (k = b ∨ lv.ownBlock = some k)) {A B : List (Th Int)} {t : Th Int} (hL : s.L = A ++ t :: B) (x : Int) : Calls Try.prog 38 #[ptr b, .int .i64 t.n, .int .i64 x] w fun r w' => r = .returned (.tuple #[.int .i64 (s.went t.n).1, .bool (s.went t.n).2]) ∧ RNext U own w b (s.put t.n x) w' := by
  have HF := refFind_any h t.n
  have hnum := h.nums
  rw [hL] at hnum
  obtain ⟨f1, f2, f3, f4, f5, f6⟩ := th_at hnum
  rw [hL, f1] at HF
  have e1 : s.went t.n = (0, false) := by unfold Ca.went; rw [hL, f2]
  rw [e1]
  obtain ⟨i0, hi, hz0, hz1, hz2⟩ := infoT
  obtain ⟨a, c, rfl⟩ := own_slice h.row
  have hap := h.apart
  have r1 := h.mono (Nat.le_succ U)
  obtain ⟨g, rfl, _, hg, t0, t1, t2, tf⟩ := th_cell (k := A.length) (u := t) r1.row (by rw [hL]; exact f5)
  have c3 : w.cell? ⟨b, 3, none⟩ = some (.slice (some ⟨g, 0, none⟩) s.L.length c) := by rw [row_cell h.cells]; rfl
  obtain ⟨wt, hwt⟩ : ∃ wt, wt = w.alloc (.cells #[.int .i64 t.n, .int .i64 x, .int .i64 (t.pins : Int)] 89) := ⟨_, rfl⟩
  have hbt : Below w.heap.size w wt := by rw [hwt]; exact below_new _ _
  have hlt : wt.heap[w.heap.size]? = some (.cells #[.int .i64 t.n, .int .i64 x, .int .i64 (t.pins : Int)] 89 (0, 0)) := by rw [hwt]; exact heap_alloc_last _ _
  have rt : RefIs (U + 1) wt b (.slice (some ⟨g, 0, none⟩) s.L.length c) s := r1.same fun k hk => hbt.block k (by
    rcases hk with rfl | hk
    · exact (Array.getElem?_eq_some_iff.1 h.cells).1
    · exact (own_type r1.row k hk).1)
  have HO := refOut_any rt (i := A.length) (by rw [hL]; simp)
  have HOH : Hid (Calls Try.prog 49 #[ptr b, .int .i64 (A.length : Int)] wt fun r w' => r = .returned (.tuple #[]) ∧ ∃ lv', NewT wt.heap.size w' lv' (A ++ B) ∧ w'.heap[b]? = some (.cells #[.int .i64 (s.places : Int), .int .i64 ((s.hits : Nat) : Int), .int .i64 (s.misses : Int), lv'] 64 (0, 0)) ∧ Kept (fun k => k = b) wt w') := by
    have e2 : s.L.eraseIdx A.length = A ++ B := by rw [hL, f4]
    rw [e2] at HO
    exact HO
  have HFH : Hid (Calls Try.prog 48 #[ptr b, .int .i64 t.n] w fun r w' => r = .returned (.int .i64 (A.length : Int)) ∧ w' = w) := HF
  have hz : (0 : Int) ≤ (A.length : Int) := by omega
  have hz2' : (A.length : Int) < (s.L.length : Int) := by rw [hL]; simp; omega
  have hz3 : (A.length : Int) ≤ 65536 := by have h1 := h.room; have h2 := h.places.2; omega
  have hllen : (A ++ B).length + 1 = s.L.length := by rw [hL]; simp; omega
  have HEND : Hid (∀ w2 w3 l2 g3 c3, Kept (fun k => k = b) wt w2 → w2.heap[b]? = some (.cells #[.int .i64 (s.places : Int), .int .i64 ((s.hits : Nat) : Int), .int .i64 (s.misses : Int), l2] 64 (0, 0)) → NewT wt.heap.size w2 l2 (A ++ B) → w3.ownsRow wt.heap.size 89 3 (.slice (some ⟨g3, 0, none⟩) ((A ++ B).length + 1) c3) ((A ++ B).length + 1) (flatT (A ++ B) ++ encT { t with x := x }) → w2.grownBy w3 l2.ownBlock → (l2.ownBlock = some g3 ∨ g3 = w2.heap.size) → RNext U own w b (s.put t.n x) (w3.setCell ⟨b, 3, none⟩ (.slice (some ⟨g3, 0, none⟩) ((A ++ B).length + 1) c3))) := fun w2 w3 l2 g3 c3 q1 q2 q3 q4 q5 q6 => by
    have e2 : s.put t.n x = ⟨s.places, s.hits, s.misses, (A ++ B) ++ [{ t with x := x }]⟩ := by unfold Ca.put; rw [hL, f2, f3]
    rw [e2]
    have hkw : Kept (fun k => k = b) w w2 := (Kept.of_below (S := fun k => k = b) hbt).trans q1 (fun _ _ e => e)
    refine rnext_end ho (hkw.mono fun i _ e => .inl e) q2 q3 (fun k hk => .inr ?_) q4 q5 q6 ?_ ?_ h.places ?_
    · have h1 := (own_type q3 k hk).2.1
      have h3 := hbt.size
      omega
    · have h1 := h.nums
      rw [hL] at h1
      have h2 : (A.map Th.n ++ t.n :: B.map Th.n).Nodup := by simpa using h1
      have h3 : ((A.map Th.n ++ B.map Th.n) ++ [t.n]).Perm (A.map Th.n ++ t.n :: B.map Th.n) := by
        rw [List.append_assoc]
        exact List.Perm.append_left _ (List.perm_append_singleton _ _)
      have := h3.nodup_iff.2 h2
      simpa using this
    · rw [hllen]; exact h.room
    · obtain ⟨c1, c2, c3⟩ := h.caps
      refine ⟨by omega, by omega, fun q hq => ?_⟩
      rcases List.mem_append.1 hq with hq | hq
      · have := c3 q (by rw [hL]; simp at hq ⊢; grind)
        omega
      · simp at hq
        subst hq
        have := c3 t (by rw [hL]; simp)
        show t.pins ≤ _
        omega
  have hl2 : (A ++ B).length ≤ 65536 := by have h1 := h.room; have h2 := h.places.2; omega
  have HRL : Hid ((A ++ B).length ≤ 65536) := hl2
  have HBT : Hid (wt.heap[w.heap.size]? = some (.cells #[.int .i64 t.n, .int .i64 x, .int .i64 (t.pins : Int)] 89 (0, 0))) := hlt
  have hwl : w.heap.size < wt.heap.size := (Array.getElem?_eq_some_iff.1 hlt).1
  have hbl : b < wt.heap.size := by have h1 := (Array.getElem?_eq_some_iff.1 h.cells).1; omega
  have hbw : b ≠ w.heap.size := by have h1 := (Array.getElem?_eq_some_iff.1 h.cells).1; omega
  clear HF HO h ho f1 f2 f3 f4 f5 f6 e1 hnum r1 rt hbt hlt hap hllen hl2
  generalize hE : A ++ B = E at *
  clear hE hL
  have HCT : Hid (w.cell? ⟨b, 3, none⟩ = some (.slice (some ⟨g, 0, none⟩) s.L.length c) ∧ w.cell? ⟨g, A.length * 3, none⟩ = some (.int .i64 t.n) ∧ w.cell? ⟨g, A.length * 3 + 1, none⟩ = some (.int .i64 t.x) ∧ w.cell? ⟨g, A.length * 3 + 2, none⟩ = some (.int .i64 (t.pins : Int))) := ⟨c3, t0, t1, t2⟩
  have HWT : Hid (wt = w.alloc (.cells #[.int .i64 t.n, .int .i64 x, .int .i64 (t.pins : Int)] 89)) := hwt
  have HWL : Hid (w.heap.size < wt.heap.size ∧ b < wt.heap.size ∧ b ≠ w.heap.size) := ⟨hwl, hbl, hbw⟩
  clear c3 t0 t1 t2 tf hwt hwl hbl hbw hg
  go_enter Try.func38, Try.ntmps38
  go_wp2_with fail
  refine Calls.mono HFH.out ?_
  rintro r wq ⟨rfl, hwq⟩
  obtain rfl := hwq.symm
  clear hwq HFH
  obtain ⟨c3, t0, t1, t2⟩ := HCT.out
  clear HCT
  go_upto_region 5 with fail
  rw [← HWT.out]
  clear HWT t0 t1 t2 c3
  obtain ⟨hwl, hbl, hbw⟩ := HWL.out
  go_wp2_with fail
  refine Calls.mono HOH.out ?_
  rintro r w5 ⟨rfl, l5, r5, q5, k5⟩
  clear HOH
  obtain ⟨a5, c5, rfl⟩ := own_slice r5
  have hbt5 : w5.heap[w.heap.size]? = _ := (k5.block _ hwl (Ne.symm hbw)).trans HBT.out
  have s0 : w5.cell? ⟨w.heap.size, 0, none⟩ = some (.int .i64 t.n) := by rw [row_cell hbt5]; rfl
  have s1 : w5.cell? ⟨w.heap.size, 1, none⟩ = some (.int .i64 x) := by rw [row_cell hbt5]; rfl
  have s2 : w5.cell? ⟨w.heap.size, 2, none⟩ = some (.int .i64 (t.pins : Int)) := by rw [row_cell hbt5]; rfl
  have s3 : w5.cell? ⟨b, 3, none⟩ = some (.slice a5 E.length c5) := by rw [row_cell q5]; rfl
  have f3 : w5.frozen? ⟨b, 3, none⟩ = false := row_frozen q5 _
  have HR5 : Hid (NewT wt.heap.size w5 (.slice a5 E.length c5) E) := r5
  have HQ5 : Hid (w5.heap[b]? = some (.cells #[.int .i64 (s.places : Int), .int .i64 ((s.hits : Nat) : Int), .int .i64 (s.misses : Int), .slice a5 E.length c5] 64 (0, 0))) := q5
  have HK5 : Hid (Kept (fun k => k = b) wt w5) := k5
  have HT5 : Hid (w5.heap[w.heap.size]? = some (.cells #[.int .i64 t.n, .int .i64 x, .int .i64 (t.pins : Int)] 89 (0, 0))) := hbt5
  clear r5 q5 k5 hbt5
  obtain ⟨w6, hw6⟩ : ∃ w6, w6 = (w5.alloc (.cells #[.int .i64 t.n, .int .i64 x, .int .i64 (t.pins : Int)] 89)).drew := ⟨_, rfl⟩
  have hb6 : Below w5.heap.size w5 w6 := by rw [hw6]; exact (below_new w5 _).drew
  have HR6 : Hid (NewT wt.heap.size w6 (.slice a5 E.length c5) E) := own_here HR5.out hb6
  have HB6 : Hid (Below w5.heap.size w5 w6) := hb6
  have HW6 : Hid (w6 = (w5.alloc (.cells #[.int .i64 t.n, .int .i64 x, .int .i64 (t.pins : Int)] 89)).drew) := hw6
  clear hb6 hw6
  have HNEW : Hid (∀ (j : Nat) (u : Value), (encT { t with x := x })[j]? = some u → w6.cell? ((⟨w5.heap.size, 0, none⟩ : Addr).add j) = some u) := fun j u hj => by
    rw [add_at, HW6.out]
    exact (row_cell (heap_alloc_last w5 _) (0 + j)).trans (by rw [Nat.zero_add, ← Array.getElem?_toList]; exact hj)
  have HSZ : Hid (wt.heap.size ≤ w6.heap.size) := Nat.le_trans HK5.out.size HB6.out.size
  have hs6 : w5.heap.size ≤ w6.heap.size := HB6.out.size
  have hbw5 : b < w5.heap.size := by have := HK5.out.size; omega
  have hwl5 : w.heap.size < w5.heap.size := by have := HK5.out.size; omega
  have HNB : Hid ((Value.slice a5 E.length c5).ownBlock ≠ some b ∧ (Value.slice a5 E.length c5).ownBlock ≠ some w.heap.size) := by
    refine ⟨fun e => ?_, fun e => ?_⟩
    · have := (own_type HR5.out b e).2.1
      omega
    · have := (own_type HR5.out _ e).2.1
      omega
  have HKW : Hid (Kept (fun k => k = b) wt w6) := (HK5.out.trans (Kept.of_below (S := fun k => k = b) HB6.out) (fun _ _ e => e))
  have HQ6 : Hid (w6.heap[b]? = some (.cells #[.int .i64 (s.places : Int), .int .i64 ((s.hits : Nat) : Int), .int .i64 (s.misses : Int), .slice a5 E.length c5] 64 (0, 0))) := (HB6.out.block b hbw5).trans HQ5.out
  go_wp2_with fail
  go_region_law
    (first
      | (rw [← HW6.out]
         refine step_append_lies _ (by rfl) _ _ 62 (by rfl) wt.heap.size 89 i0 _ 3 24 Try.underlying62 hi hz0 hz1 hz2 rfl (by decide) (.slice a5 E.length c5) E.length (flatT E) (by rfl) (by exact HR6.out) ⟨w5.heap.size, 0, none⟩ 1 1 (encT { t with x := x }) (by rfl) rfl (by exact HNEW.out) (by exact encT_one { t with x := x }) (by decide) (by have := HRL.out; unfold maxLen; omega) (by have := HRL.out; omega) (by exact HSZ.out) _ rfl ?_
         intro g7 c7 w7 ho7 hg7 hat7 hlt7
         have HO7 : Hid (w7.ownsRow wt.heap.size 89 3 (.slice (some ⟨g7, 0, none⟩) (E.length + 1) c7) (E.length + 1) (flatT E ++ encT { t with x := x })) := ho7
         have HG7 : Hid (w6.grownBy w7 (Value.slice a5 E.length c5).ownBlock) := hg7
         have HA7 : Hid ((Value.slice a5 E.length c5).ownBlock = some g7 ∨ g7 = w6.heap.size) := hat7
         have hb7 : w7.heap[b]? = _ := (hg7.block b (by omega) (fun e => HNB.out.1 e.symm)).trans ((HB6.out.block b hbw5).trans HQ5.out)
         have ht7 : w7.heap[w.heap.size]? = _ := (hg7.block w.heap.size (by omega) (fun e => HNB.out.2 e.symm)).trans ((HB6.out.block _ hwl5).trans HT5.out)
         have p3 : w7.cell? ⟨b, 3, none⟩ = some (.slice a5 E.length c5) := by rw [row_cell hb7]; rfl
         have pf : w7.frozen? ⟨b, 3, none⟩ = false := row_frozen hb7 _
         have p0 : w7.cell? ⟨w.heap.size, 0, none⟩ = some (.int .i64 t.n) := by rw [row_cell ht7]; rfl
         have p1 : w7.cell? ⟨w.heap.size, 1, none⟩ = some (.int .i64 x) := by rw [row_cell ht7]; rfl
         have p2 : w7.cell? ⟨w.heap.size, 2, none⟩ = some (.int .i64 (t.pins : Int)) := by rw [row_cell ht7]; rfl
         clear ho7 hg7 hat7 hlt7 hb7 ht7))
  all_goals
    go_wp2_with fail
    go_ret2
    exact ⟨rfl, HEND.out w6 _ _ _ _ HKW.out HQ6.out HR6.out HO7.out HG7.out HA7.out⟩
end Go.Proofs.Yteajgodpdfcioaa
