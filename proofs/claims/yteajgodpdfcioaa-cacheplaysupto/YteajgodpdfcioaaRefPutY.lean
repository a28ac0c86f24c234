/- The document's Put, of a number that is not there. -/
import Derived.Test.YteajgodpdfcioaaRefPutX
namespace Go.Proofs.Yteajgodpdfcioaa
open Go.RowKit

theorem nodup_more {E : List (Th Int)} {n : Int} (h : (E.map Th.n).Nodup) (hn : ∀ q ∈ E, q.n ≠ n) (x : Int) (p : Nat) : ((E ++ [(⟨n, x, p⟩ : Th Int)]).map Th.n).Nodup := by
  rw [List.map_append]
  refine List.nodup_append.2 ⟨h, by simp, fun a ha c hc e => ?_⟩
  simp at hc
  obtain ⟨q, hq, rfl⟩ := List.mem_map.1 ha
  exact hn q hq (e.trans hc)
set_option maxHeartbeats 800000 in
set_option maxRecDepth 100000 in
theorem refPut_room {U : Nat} {own : Nat → Prop} {w : World} {b : Nat} {lv : Value} {s : Ca Int} (h : RefIs U w b lv s) (ho : ∀ k, own k ↔ (k = b ∨ lv.ownBlock = some k)) {n : Int} (hno : ∀ t ∈ s.L, t.n ≠ n) (hr : s.L.length < s.places) (x : Int) : Calls Try.prog 38 #[ptr b, .int .i64 n, .int .i64 x] w fun r w' => r = .returned (.tuple #[.int .i64 (s.went n).1, .bool (s.went n).2]) ∧ RNext U own w b (s.put n x) w' := by
  have HF := refFind_any h n
  obtain ⟨f1, f2, f3⟩ := th_not hno
  rw [f1] at HF
  have e1 : s.went n = (0, false) := by unfold Ca.went; rw [f2]; simp [hr]
  have e2 : s.put n x = ⟨s.places, s.hits, s.misses, s.L ++ [⟨n, x, 0⟩]⟩ := by unfold Ca.put; rw [f2]; simp [hr]
  rw [e1, e2]
  obtain ⟨i0, hi, hz0, hz1, hz2⟩ := infoT
  obtain ⟨a, c, rfl⟩ := own_slice h.row
  have d0 : w.cell? ⟨b, 0, none⟩ = some (.int .i64 (s.places : Int)) := by rw [row_cell h.cells]; rfl
  have d3 : w.cell? ⟨b, 3, none⟩ = some (.slice a s.L.length c) := by rw [row_cell h.cells]; rfl
  have HFH : Hid (Calls Try.prog 48 #[ptr b, .int .i64 n] w fun r w' => r = .returned (.int .i64 (-1)) ∧ w' = w) := HF
  have hrz : (s.L.length : Int) < (s.places : Int) := by omega
  have hbl : b < w.heap.size := (Array.getElem?_eq_some_iff.1 h.cells).1
  have HAP : Hid ((Value.slice a s.L.length c).ownBlock ≠ some b) := h.apart
  have HLE : Hid (s.L.length ≤ 65536) := Nat.le_trans h.room h.places.2
  have HC : Hid (w.heap[b]? = some (.cells #[.int .i64 (s.places : Int), .int .i64 (s.hits : Int), .int .i64 (s.misses : Int), .slice a s.L.length c] 64 (0, 0))) := h.cells
  have HRW : Hid (NewT 0 w (.slice a s.L.length c) s.L) := h.row
  have HEND : Hid (∀ w2 w3 g3 c3, Below w.heap.size w w2 → w3.ownsRow 0 89 3 (.slice (some ⟨g3, 0, none⟩) (s.L.length + 1) c3) (s.L.length + 1) (flatT s.L ++ encT ⟨n, x, 0⟩) → w2.grownBy w3 (Value.slice a s.L.length c).ownBlock → ((Value.slice a s.L.length c).ownBlock = some g3 ∨ g3 = w2.heap.size) → RNext U own w b ⟨s.places, s.hits, s.misses, s.L ++ [⟨n, x, 0⟩]⟩ (w3.setCell ⟨b, 3, none⟩ (.slice (some ⟨g3, 0, none⟩) (s.L.length + 1) c3))) := fun w2 w3 g3 c3 q1 q4 q5 q6 => by
    obtain ⟨c1, c2, c4⟩ := h.caps
    refine rnext_end ho (Kept.of_below q1) ((q1.block b (Array.getElem?_eq_some_iff.1 h.cells).1).trans h.cells) (own_here h.row q1) (fun k hk => .inl hk) q4 q5 q6 (nodup_more h.nums hno x 0) (by omega) h.places ⟨by omega, by omega, fun q hq => ?_⟩
    rcases List.mem_append.1 hq with hq | hq
    · have := c4 q hq; omega
    · simp at hq; subst hq; exact Nat.zero_le _
  clear HF h ho f1 f2 f3 e1 e2 hno hr
  generalize s.L = L at *
  go_enter Try.func38, Try.ntmps38
  go_wp2_with fail
  refine Calls.mono HFH.out ?_
  rintro r w1 ⟨rfl, hw1⟩
  obtain rfl := hw1.symm
  clear hw1 HFH
  go_wp2_with fail
  go_quiet (fail)
  obtain ⟨w2, hw2⟩ : ∃ w2, w2 = w.drewN nq := ⟨_, rfl⟩
  have hb2 : Below w.heap.size w w2 := by rw [hw2]; exact below_draws (Below.refl _ _) _
  have D3 : w2.cell? ⟨b, 3, none⟩ = some (.slice a L.length c) := by rw [hw2]; exact d3
  have hs2 : w2.heap.size = w.heap.size := by rw [hw2]; rfl
  rw [← hw2]
  clear hw2 d0 d3
  have HB2 : Hid (Below w.heap.size w w2) := hb2
  have hbl2 : b < w2.heap.size := by omega
  clear hs2
  have HV : Hid (NewT 0 (w2.alloc (.cells #[.int .i64 n, .int .i64 x, .int .i64 0] 89)) (.slice a L.length c) L) := own_here (own_here HRW.out hb2) (below_new _ _)
  have HB3 : Hid (Below w.heap.size w (w2.alloc (.cells #[.int .i64 n, .int .i64 x, .int .i64 0] 89))) := hb2.alloc hb2.size _
  have HNEW : Hid (∀ (j : Nat) (u : Value), (encT ⟨n, x, 0⟩)[j]? = some u → (w2.alloc (.cells #[.int .i64 n, .int .i64 x, .int .i64 0] 89)).cell? ((⟨w2.heap.size, 0, none⟩ : Addr).add j) = some u) := fun j u hj => by
    rw [add_at, row_cell (heap_alloc_last w2 _), Nat.zero_add, ← Array.getElem?_toList]
    exact hj
  clear hb2
  go_wp2_with (
    at_builtin
    refine wpList_append_lies _ rfl _ _ 62 rfl 0 89 i0 _ 3 24 Try.underlying62 hi hz0 hz1 hz2 rfl (by decide) (.slice a L.length c) L.length (flatT L) rfl HV.out ⟨w2.heap.size, 0, none⟩ 1 1 (encT ⟨n, x, 0⟩) rfl rfl HNEW.out (encT_one ⟨n, x, 0⟩) (by decide) (by have := HLE.out; unfold maxLen; omega) (by have := HLE.out; omega) (Nat.zero_le _) _ rfl ?_
    intro g7 c7 w7 ho7 hg7 hat7 hlt7
    have hb7 : w7.heap[b]? = _ := (hg7.block b (by simp; omega) (fun e => HAP.out e.symm)).trans ((HB3.out.block b hbl).trans HC.out)
    have p3 : w7.cell? ⟨b, 3, none⟩ = some (.slice a L.length c) := by rw [row_cell hb7]; rfl
    have pf : w7.frozen? ⟨b, 3, none⟩ = false := row_frozen hb7 _
    have HX : Hid (RNext U own w b ⟨s.places, s.hits, s.misses, L ++ [⟨n, x, 0⟩]⟩ (w7.setCell ⟨b, 3, none⟩ (.slice (some ⟨g7, 0, none⟩) (L.length + 1) c7))) := HEND.out _ _ _ _ HB3.out ho7 hg7 hat7
    clear ho7 hg7 hat7 hlt7 hb7)
  go_ret2
  exact ⟨rfl, HX.out⟩
/-- The first thing that is not held. -/
theorem loose_or (L : List (Th Int)) : (∃ F t R, L = F ++ t :: R ∧ (∀ q ∈ F, q.pins ≠ 0) ∧ t.pins = 0 ∧ looseT L = some t) ∨ ((∀ q ∈ L, q.pins ≠ 0) ∧ looseT L = none) := by
  cases h : looseT L with
  | none =>
    refine .inr ⟨fun q hq => ?_, rfl⟩
    unfold looseT at h
    simpa using List.find?_eq_none.1 h q hq
  | some t =>
    unfold looseT at h
    obtain ⟨h1, F, R, h2, h3⟩ := List.find?_eq_some_iff_append.1 h
    exact .inl ⟨F, t, R, h2, fun q hq => by simpa using h3 q hq, by simpa using h1, rfl⟩
set_option maxHeartbeats 1600000 in
set_option maxRecDepth 100000 in
theorem refPut_full {U : Nat} {own : Nat → Prop} {w : World} {b : Nat} {lv : Value} {s : Ca Int} (h : RefIs U w b lv s) (ho : ∀ k, own k ↔ (k = b ∨ lv.ownBlock = some k)) {n : Int} (hno : ∀ t ∈ s.L, t.n ≠ n) (hr : ¬ s.L.length < s.places) (x : Int) : Calls Try.prog 38 #[ptr b, .int .i64 n, .int .i64 x] w fun r w' => r = .returned (.tuple #[.int .i64 (s.went n).1, .bool (s.went n).2]) ∧ RNext U own w b (s.put n x) w' := by
  have HF := refFind_any h n
  obtain ⟨f1, f2, f3⟩ := th_not hno
  rw [f1] at HF
  obtain ⟨i0, hi, hz0, hz1, hz2⟩ := infoT
  obtain ⟨a, c, rfl⟩ := own_slice h.row
  have d0 : w.cell? ⟨b, 0, none⟩ = some (.int .i64 (s.places : Int)) := by rw [row_cell h.cells]; rfl
  have d3 : w.cell? ⟨b, 3, none⟩ = some (.slice a s.L.length c) := by rw [row_cell h.cells]; rfl
  have HFH : Hid (Calls Try.prog 48 #[ptr b, .int .i64 n] w fun r w' => r = .returned (.int .i64 (-1)) ∧ w' = w) := HF
  have hrz : ¬ (s.L.length : Int) < (s.places : Int) := by omega
  have hlz : (s.L.length : Int) ≤ 65536 := by have h1 := h.room; have h2 := h.places.2; omega
  have HH : Hid (RefIs U w b (.slice a s.L.length c) s) := h
  have HO : Hid (∀ k, own k ↔ (k = b ∨ (Value.slice a s.L.length c).ownBlock = some k)) := ho
  have HNO : Hid (∀ t ∈ s.L, t.n ≠ n) := hno
  have HLE : Hid (s.L.length ≤ 65536) := Nat.le_trans h.room h.places.2
  have HPW : Hid ((looseT s.L = none → s.put n x = s ∧ s.went n = (n, true)) ∧ ∀ t, looseT s.L = some t → s.put n x = { s with L := outT t.n s.L ++ [⟨n, x, 0⟩] } ∧ s.went n = (t.n, true)) := by
    refine ⟨fun hl => ⟨?_, ?_⟩, fun t hl => ⟨?_, ?_⟩⟩
    · unfold Ca.put; rw [f2]; simp [hr, hl]
    · unfold Ca.went; rw [f2]; simp [hr, hl]
    · unfold Ca.put; rw [f2]; simp [hr, hl]
    · unfold Ca.went; rw [f2]; simp [hr, hl]
  clear HF h ho f1 f2 f3 hno hr
  go_enter Try.func38, Try.ntmps38
  go_wp2_with fail
  refine Calls.mono HFH.out ?_
  rintro r w1 ⟨rfl, hw1⟩
  obtain rfl := hw1.symm
  clear hw1 HFH
  go_wp2_with fail
  go_quiet (fail)
  obtain ⟨w2, hw2⟩ : ∃ w2, w2 = w.drewN nq := ⟨_, rfl⟩
  have hk2 : Kept (fun k => k = b) w w2 := by rw [hw2]; exact (Kept.refl _ _).draws _
  have HH2 : Hid (RefIs U w2 b (.slice a s.L.length c) s) := HH.out.same fun k _ => by rw [hw2]; rfl
  have HK2 : Hid (Below w.heap.size w w2) := by rw [hw2]; exact below_draws (Below.refl _ _) _
  rw [← hw2]
  clear hw2 d0 d3 hk2
  have D3 : w2.cell? ⟨b, 3, none⟩ = some (.slice a s.L.length c) := by rw [row_cell HH2.out.cells]; rfl
  go_wp2_with fail
  go_loop [10] (fun kv => ∃ k : Nat, k ≤ s.L.length ∧ kv = .int .i64 k ∧ ∀ t ∈ s.L.take k, t.pins ≠ 0) (fun kv => s.L.length - (intOf kv).toNat)
  case atStart => exact ⟨0, Nat.zero_le _, rfl, fun t ht => by simp at ht⟩
  case round =>
    obtain ⟨k, hk, rfl, hpins⟩ := hrel
    have HPI : Hid (∀ t ∈ s.L.take k, t.pins ≠ 0) := hpins
    clear hpins
    by_cases hlt : k < s.L.length
    · have hltz : (k : Int) < (s.L.length : Int) := by omega
      obtain ⟨y, hy⟩ : ∃ y, s.L[k]? = some y := ⟨_, List.getElem?_eq_getElem hlt⟩
      obtain ⟨g, rfl, _, hg, y0, y1, y2, yf⟩ := th_cell HH2.out.row hy
      have HY : Hid (s.L[k]? = some y) := hy
      clear hy
      by_cases hp : y.pins = 0
      · have y2' : w2.cell? ⟨g, k * 3 + 2, none⟩ = some (.int .i64 0) := by rw [y2, hp]; rfl
        have HLO : Hid (looseT s.L = some y) := by
          show _ = _
          unfold looseT
          obtain ⟨h1, h2⟩ := List.getElem?_eq_some_iff.1 HY.out
          rw [← List.take_append_drop k s.L, List.find?_append, List.find?_eq_none.2 (fun t ht => by simpa using HPI.out t ht)]
          rw [← List.getElem_cons_drop (h := h1), h2]
          simp [hp]
        have HOU := refOut_any HH2.out (i := k) hlt
        have HOH : Hid (Calls Try.prog 49 #[ptr b, .int .i64 (k : Int)] w2 fun r w' => r = .returned (.tuple #[]) ∧ ∃ lv', NewT w2.heap.size w' lv' (outT y.n s.L) ∧ w'.heap[b]? = some (.cells #[.int .i64 (s.places : Int), .int .i64 (s.hits : Int), .int .i64 (s.misses : Int), lv'] 64 (0, 0)) ∧ Kept (fun k => k = b) w2 w') := by
          obtain ⟨h1, h2⟩ := List.getElem?_eq_some_iff.1 HY.out
          have e3 : s.L = s.L.take k ++ y :: s.L.drop (k + 1) := by rw [← h2, List.getElem_cons_drop, List.take_append_drop]
          have hl : (s.L.take k).length = k := by simp; omega
          have hn := HH2.out.nums
          rw [e3] at hn
          obtain ⟨_, _, q3, q4, _⟩ := th_at hn
          rw [hl] at q4
          have e4 : s.L.eraseIdx k = outT y.n s.L := by
            conv => lhs; rw [e3]
            conv => rhs; rw [e3]
            rw [q3, q4]
          rw [e4] at HOU
          exact HOU
        have HOL : Hid ((outT y.n s.L).length + 1 ≤ s.L.length ∧ (outT y.n s.L).Sublist s.L) := by
          unfold outT
          refine ⟨?_, List.filter_sublist⟩
          have hm : y ∈ s.L := List.mem_of_getElem? HY.out
          rcases Nat.lt_or_ge (s.L.filter (fun t => t.n != y.n)).length s.L.length with h | h
          · omega
          · have := (List.filter_sublist (p := fun t : Th Int => t.n != y.n) (l := s.L)).eq_of_length_le h
            have h3 := List.filter_eq_self.1 this y hm
            simp at h3
        clear hp y2 HOU
        generalize hE : outT y.n s.L = E at *
        have HEE : Hid (outT y.n s.L = E) := hE
        clear hE
        go_wp2_with fail
        refine Calls.mono HOH.out ?_
        rintro r w5 ⟨rfl, l5, r5, q5, k5⟩
        clear HOH
        obtain ⟨a5, c5, rfl⟩ := own_slice r5
        have D5 : w5.cell? ⟨b, 3, none⟩ = some (.slice a5 E.length c5) := by rw [row_cell q5]; rfl
        have HR5 : Hid (NewT w2.heap.size w5 (.slice a5 E.length c5) E) := r5
        have HQ5 : Hid (w5.heap[b]? = some (.cells #[.int .i64 (s.places : Int), .int .i64 (s.hits : Int), .int .i64 (s.misses : Int), .slice a5 E.length c5] 64 (0, 0))) := q5
        have HK5 : Hid (Kept (fun k => k = b) w2 w5) := k5
        have hbw5 : b < w5.heap.size := (Array.getElem?_eq_some_iff.1 q5).1
        have hbw2 : b < w2.heap.size := (Array.getElem?_eq_some_iff.1 HH2.out.cells).1
        clear r5 q5 k5
        have HV : Hid (NewT w2.heap.size (w5.alloc (.cells #[.int .i64 n, .int .i64 x, .int .i64 0] 89)) (.slice a5 E.length c5) E) := own_here HR5.out (below_new _ _)
        have HNEW : Hid (∀ (j : Nat) (u : Value), (encT ⟨n, x, 0⟩)[j]? = some u → (w5.alloc (.cells #[.int .i64 n, .int .i64 x, .int .i64 0] 89)).cell? ((⟨w5.heap.size, 0, none⟩ : Addr).add j) = some u) := fun j u hj => by
          rw [add_at, row_cell (heap_alloc_last w5 _), Nat.zero_add, ← Array.getElem?_toList]
          exact hj
        have HSZ : Hid (w2.heap.size ≤ (w5.alloc (.cells #[.int .i64 n, .int .i64 x, .int .i64 0] 89)).heap.size) := (show w2.heap.size ≤ _ by have := HK5.out.size; simp; omega)
        have HNB : Hid ((Value.slice a5 E.length c5).ownBlock ≠ some b) := fun e => by
          have := (own_type HR5.out b e).2.1
          omega
        go_wp2_with (
          at_builtin
          refine wpList_append_lies _ rfl _ _ 62 rfl w2.heap.size 89 i0 _ 3 24 Try.underlying62 hi hz0 hz1 hz2 rfl (by decide) (.slice a5 E.length c5) E.length (flatT E) rfl HV.out ⟨w5.heap.size, 0, none⟩ 1 1 (encT ⟨n, x, 0⟩) rfl rfl HNEW.out (encT_one ⟨n, x, 0⟩) (by decide) (by have h1 := HLE.out; have h2 := HOL.out.1; unfold maxLen; omega) (by have h1 := HLE.out; have h2 := HOL.out.1; omega) HSZ.out _ rfl ?_
          intro g7 c7 w7 ho7 hg7 hat7 hlt7
          have hb7 : w7.heap[b]? = _ := (hg7.block b (by simp; omega) (fun e => HNB.out e.symm)).trans (((below_new w5 _).block b hbw5).trans HQ5.out)
          have p3 : w7.cell? ⟨b, 3, none⟩ = some (.slice a5 E.length c5) := by rw [row_cell hb7]; rfl
          have pf : w7.frozen? ⟨b, 3, none⟩ = false := row_frozen hb7 _
          have HX : Hid (RNext U own w b (s.put n x) (w7.setCell ⟨b, 3, none⟩ (.slice (some ⟨g7, 0, none⟩) (E.length + 1) c7))) := by
            obtain ⟨c1, c2, c4⟩ := HH.out.caps
            rw [(HPW.out.2 y HLO.out).1, HEE.out]
            refine rnext_end (w2 := w5.alloc (.cells #[.int .i64 n, .int .i64 x, .int .i64 0] 89)) HO.out ((((Kept.of_below HK2.out).trans HK5.out (fun _ _ e => .inl e)).trans (Kept.of_below (S := fun k => k = b) (below_new w5 _)) (fun _ _ e => .inl e))) (((below_new w5 _).block b hbw5).trans HQ5.out) HV.out (fun k hk => .inr ?_) ho7 hg7 hat7 (nodup_more (HH.out.nums.sublist (HOL.out.2.map _)) (fun q hq => HNO.out q (HOL.out.2.subset hq)) x 0) ?_ HH.out.places ⟨by omega, by omega, fun q hq => ?_⟩
            · have h1 := (own_type HV.out k hk).2.1
              have h2 := HK2.out.size
              omega
            · have h1 := HOL.out.1
              have h2 := HH.out.room
              omega
            · rcases List.mem_append.1 hq with hq | hq
              · have := c4 q (HOL.out.2.subset hq); omega
              · simp at hq; subst hq; exact Nat.zero_le _
          clear ho7 hg7 hat7 hlt7 hb7)
        go_ret2
        rw [(HPW.out.2 y HLO.out).2]
        exact ⟨rfl, HX.out⟩
      · have hpz : ¬ (y.pins : Int) = 0 := by omega
        have hpb : ((y.pins : Int) == 0) = false := by simpa using hpz
        obtain ⟨yp, hyp⟩ : ∃ yp : Int, yp = (y.pins : Int) := ⟨_, rfl⟩
        rw [← hyp] at hpz hpb y2
        clear hyp
        go_wp2_with fail
        exact ⟨⟨k + 1, by omega, by go_num, fun t ht => by
          rw [List.take_add_one, HY.out] at ht
          rcases List.mem_append.1 ht with ht | ht
          · exact HPI.out t ht
          · simp at ht
            subst ht
            exact hp⟩, by simp [intOf]; omega⟩
    · have hltz : ¬ (k : Int) < (s.L.length : Int) := by omega
      have HLO : Hid (looseT s.L = none) := by
        show _ = _
        unfold looseT
        refine List.find?_eq_none.2 (fun t ht => ?_)
        have := HPI.out t (by rw [List.take_of_length_le (by omega)]; exact ht)
        simpa using this
      go_wp2_with fail
      go_ret2
      rw [(HPW.out.1 HLO.out).1, (HPW.out.1 HLO.out).2]
      exact ⟨rfl, rnext_mk HO.out (HH2.out.mono (Nat.le_succ _)) (fun k hk => .inl hk) (Kept.of_below HK2.out)⟩
theorem refPut_any {U : Nat} {own : Nat → Prop} {w : World} {b : Nat} {s : Ca Int} (h : RefAt U own w b s) (n x : Int) : Calls Try.prog 38 #[ptr b, .int .i64 n, .int .i64 x] w fun r w' => r = .returned (.tuple #[.int .i64 (s.went n).1, .bool (s.went n).2]) ∧ RNext U own w b (s.put n x) w' := by
  obtain ⟨lv, h, ho⟩ := h
  rcases th_or s.L n with ⟨A, t, B, hL, rfl⟩ | hno
  · exact refPut_in h ho hL x
  · by_cases hr : s.L.length < s.places
    · exact refPut_room h ho hno hr x
    · exact refPut_full h ho hno hr x
end Go.Proofs.Yteajgodpdfcioaa
