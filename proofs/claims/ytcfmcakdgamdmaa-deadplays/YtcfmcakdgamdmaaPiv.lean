/- order2, median, medianAdjacent, choosePivot: which place they tell. -/
import Derived.Test.YtcfmcakdgamdmaaURow
import Derived.Test.YtcfmcakdgamdmaaSame
namespace Go.Proofs.Ytcfmcakdgamdmaa
open Go.RowKit Go.Sort

/-- A counter in a block of its own, beside the row; nothing has changed but for it. -/
structure Cnt (w0 w : World) (s g c : Nat) (d : Array Int) : Prop where
  is : ∃ n : Int, w.heap[s]? = some (.cells #[.int .i64 n] 3 (0, 0))
  kept : Kept (fun i => i = s) w0 w
  row : URow w w g c d
theorem Cnt.trans {w0 w w' : World} {s g c : Nat} {d : Array Int} (h : Cnt w0 w s g c d) (k : Cnt w w' s g c d) : Cnt w0 w' s g c d := ⟨k.is, h.kept.trans k.kept (fun _ _ h => h), k.row⟩
theorem Cnt.start {w0 w : World} {s g c : Nat} {d : Array Int} (h : Cnt w0 w s g c d) : Cnt w w s g c d := ⟨h.is, Kept.refl _ _, h.row⟩
theorem Cnt.draws {w0 w : World} {s g c : Nat} {d : Array Int} (h : Cnt w0 w s g c d) (q : Nat) : Cnt w0 (w.drewN q) s g c d := ⟨h.is, h.kept.draws q, (h.row.draws q).start⟩
theorem Cnt.set {w0 w : World} {s g c : Nat} {d : Array Int} (h : Cnt w0 w s g c d) (m : Int) : Cnt w0 (w.setCell ⟨s, 0, none⟩ (.int .i64 m)) s g c d := by
  obtain ⟨n, hn⟩ := h.is
  obtain ⟨cur, h1, h2⟩ := h.row.is
  have hne : g ≠ s := fun e => by
    rw [e, hn] at h1
    simp at h1
  refine ⟨⟨m, ?_⟩, h.kept.trans (setCell_kept _) (fun _ _ h => h), ⟨⟨cur, ?_, h2⟩, h.row.len, Kept.refl _ _⟩⟩
  · have := heap_set_same (i := 0) (.int .i64 m) hn
    simpa using this
  · rw [(setCell_kept (.int .i64 m)).block g h.row.lt hne]
    exact h1
structure Ord2Post (w : World) (s g c : Nat) (d : Array Int) (i j : Nat) (e : Ending) (w' : World) : Prop where
  is : ∃ x y : Nat, e = .returned (.tuple #[.int .i64 (x : Int), .int .i64 (y : Int)]) ∧ (x = i ∧ y = j ∨ x = j ∧ y = i) ∧ Cnt w w' s g c d
set_option maxHeartbeats 800000 in
set_option maxRecDepth 100000 in
theorem order2_any {w : World} {s g c cc i j : Nat} {d : Array Int} (h : Cnt w w s g c d) (hi : i < d.size) (hj : j < d.size) :
    Calls Try.prog 72 #[.slice (some ⟨g, 0, none⟩) d.size cc, .int .i64 (i : Int), .int .i64 (j : Int), .pointer (some ⟨s, 0, none⟩)] w fun e w' => Ord2Post w s g c d i j e w' := by
  have hin : (i : Int) < (d.size : Int) := by omega
  have hjn : (j : Int) < (d.size : Int) := by omega
  have ci := h.row.cell hi
  have cj := h.row.cell hj
  have HC : Hid _ := h
  obtain ⟨n, hn⟩ := h.is
  generalize d[i]! = x at ci
  generalize d[j]! = y at cj
  clear h
  by_cases hl : y < x
  · go_enter Try.func72, Try.ntmps72
    go_wp2_with fail
    go_quiet ((go_at_call 57; exact Calls.quiet_of_same (lessU_any _ _ _)))
    have cn : (w.drewN nq).cell? ⟨s, 0, none⟩ = some (.int .i64 n) := row_cell hn 0
    have fn : (w.drewN nq).frozen? ⟨s, 0, none⟩ = false := row_frozen hn 0
    go_wp2_with fail
    go_ret2
    exact ⟨j, i, rfl, .inr ⟨rfl, rfl⟩, (HC.out.draws _).set _⟩
  · go_enter Try.func72, Try.ntmps72
    go_wp2_with fail
    go_quiet ((go_at_call 57; exact Calls.quiet_of_same (lessU_any _ _ _)))
    go_wp2_with fail
    go_ret2
    exact ⟨i, j, rfl, .inl ⟨rfl, rfl⟩, HC.out.draws _⟩
structure MedPost (w : World) (s g c : Nat) (d : Array Int) (i j k : Nat) (e : Ending) (w' : World) : Prop where
  is : ∃ x : Nat, e = .returned (.int .i64 (x : Int)) ∧ (x = i ∨ x = j ∨ x = k) ∧ Cnt w w' s g c d
set_option maxHeartbeats 800000 in
set_option maxRecDepth 100000 in
theorem median_any {w : World} {s g c cc i j k : Nat} {d : Array Int} (h : Cnt w w s g c d) (hi : i < d.size) (hj : j < d.size) (hk : k < d.size) :
    Calls Try.prog 70 #[.slice (some ⟨g, 0, none⟩) d.size cc, .int .i64 (i : Int), .int .i64 (j : Int), .int .i64 (k : Int), .pointer (some ⟨s, 0, none⟩)] w fun e w' => MedPost w s g c d i j k e w' := by
  have HC : Hid _ := h
  clear h
  go_enter Try.func70, Try.ntmps70
  go_wp2_with fail
  refine (order2_any HC.out hi hj).mono ?_
  rintro e w1 ⟨x1, y1, rfl, h1, hc1⟩
  have HC1 : Hid _ := hc1
  have H1 : Hid _ := h1
  clear hc1 h1
  go_wp2_with fail
  refine (order2_any (i := y1) (j := k) HC1.out.start (by have := H1.out; omega) hk).mono ?_
  rintro e w2 ⟨x2, y2, rfl, h2, hc2⟩
  have HC2 : Hid _ := HC1.out.trans hc2
  have H2 : Hid _ := h2
  clear hc2 h2
  go_wp2_with fail
  refine (order2_any (i := x1) (j := x2) (Cnt.start HC2.out) (by have := H1.out; omega) (by have := H1.out; have := H2.out; omega)).mono ?_
  rintro e w3 ⟨x3, y3, rfl, h3, hc3⟩
  have HC3 : Hid (Cnt w w3 s g c d) := Cnt.trans HC2.out hc3
  have H3 : Hid _ := h3
  clear hc3 h3
  go_wp2_with fail
  go_ret
  exact ⟨y3, rfl, by have := H1.out; have := H2.out; have := H3.out; omega, HC3.out⟩
set_option maxHeartbeats 800000 in
set_option maxRecDepth 100000 in
theorem medianAdj_any {w : World} {s g c cc i : Nat} {d : Array Int} (h : Cnt w w s g c d) (hi : i + 1 < d.size) (hi0 : 0 < i) (hs : d.size ≤ 140737488355328) :
    Calls Try.prog 69 #[.slice (some ⟨g, 0, none⟩) d.size cc, .int .i64 (i : Int), .pointer (some ⟨s, 0, none⟩)] w fun e w' => MedPost w s g c d (i - 1) i (i + 1) e w' := by
  obtain ⟨m, rfl⟩ : ∃ m, i = m + 1 := ⟨i - 1, by omega⟩
  have HM := median_any (cc := cc) (i := m) (j := m + 1) (k := m + 1 + 1) h (by omega) (by omega) (by omega)
  have e1 : ((m + 1 : Nat) : Int) = (m : Int) + 1 := by omega
  have e2 : ((m + 1 + 1 : Nat) : Int) = (m : Int) + 1 + 1 := by omega
  have e3 : (m : Int) + 1 + 1 = (m : Int) + 2 := by omega
  rw [e2, e1] at HM
  have HMM : Hid (Calls Try.prog 70 #[.slice (some ⟨g, 0, none⟩) d.size cc, .int .i64 (m : Int), .int .i64 ((m : Int) + 1), .int .i64 ((m : Int) + 1 + 1), .pointer (some ⟨s, 0, none⟩)] w fun e w' => MedPost w s g c d m (m + 1) (m + 1 + 1) e w') := HM
  clear h e1 e2 e3 HM
  go_enter Try.func69, Try.ntmps69
  go_wp2_with fail
  refine HMM.out.mono ?_
  rintro e w1 ⟨x, rfl, hx, hc⟩
  have HC1 : Hid _ := hc
  have HX : Hid _ := hx
  clear hc hx
  go_wp2_with fail
  go_ret
  exact ⟨x, rfl, HX.out, HC1.out⟩
structure PivPost (w : World) (a b : Nat) (e : Ending) (w' : World) : Prop where
  is : ∃ (x : Nat) (hn : Int), e = .returned (.tuple #[.int .i64 (x : Int), .int .i64 hn]) ∧ a ≤ x ∧ x < b ∧ (hn = 0 ∨ hn = 1 ∨ hn = 2) ∧ Below w.heap.size w w'
set_option maxHeartbeats 1600000 in
set_option maxRecDepth 100000 in
theorem choose_any {w : World} {g c cc a b : Nat} {d : Array Int} (h : URow w w g c d) (hab : a + 12 < b) (hb : b ≤ d.size) (hs : d.size ≤ 140737488355328) :
    Calls Try.prog 54 #[.slice (some ⟨g, 0, none⟩) d.size cc, .int .i64 (a : Int), .int .i64 (b : Int)] w fun e w' => PivPost w a b e w' := by
  obtain ⟨l, hl⟩ : ∃ l, l = b - a := ⟨_, rfl⟩
  have hlz : (b : Int) - (a : Int) = (l : Int) := by omega
  obtain ⟨t, ht⟩ : ∃ t, t = l / 4 := ⟨_, rfl⟩
  have htz : (l : Int) / 4 = (t : Int) := by omega
  obtain ⟨i, hi⟩ : ∃ i, i = a + t := ⟨_, rfl⟩
  obtain ⟨j, hj⟩ : ∃ j, j = a + t * 2 := ⟨_, rfl⟩
  obtain ⟨k, hk⟩ : ∃ k, k = a + t * 3 := ⟨_, rfl⟩
  have hiz : (a : Int) + (t : Int) = (i : Int) := by omega
  have hjz : (a : Int) + (t : Int) * 2 = (j : Int) := by omega
  have hkz : (a : Int) + (t : Int) * 3 = (k : Int) := by omega
  have hl8 : (8 : Int) ≤ (l : Int) := by omega
  have HIJ : Hid (i + 1 < b ∧ a + 1 ≤ i ∧ j + 1 < b ∧ a + 1 ≤ j ∧ k + 1 < b ∧ a + 1 ≤ k) := by
    exact ⟨by omega, by omega, by omega, by omega, by omega, by omega⟩
  obtain ⟨wa, hwa⟩ : ∃ wa, wa = w.alloc (.cells #[.int .i64 0] 3) := ⟨_, rfl⟩
  have hba : Below w.heap.size w wa := by rw [hwa]; exact below_new w _
  have HCA : Hid (Cnt wa wa w.heap.size g c d) := ⟨⟨0, by rw [hwa]; exact heap_alloc_last w _⟩, Kept.refl _ _, (h.below hba).start⟩
  have HBA : Hid _ := hba
  have hl50 : (50 : Int) ≤ (l : Int) ∨ ¬ (50 : Int) ≤ (l : Int) := by omega
  clear h hl ht hi hj hk hba
  rcases hl50 with h50 | h50
  · go_enter Try.func54, Try.ntmps54
    go_wp2_with fail
    rw [← hwa]
    clear hwa
    refine (medianAdj_any (i := i) HCA.out (by have := HIJ.out; omega) (by have := HIJ.out; omega) hs).mono ?_
    rintro e w1 ⟨x1, rfl, h1, hc1⟩
    have HC1 : Hid _ := hc1
    have H1 : Hid _ := h1
    clear hc1 h1
    go_wp2_with fail
    refine (medianAdj_any (i := j) (Cnt.start HC1.out) (by have := HIJ.out; omega) (by have := HIJ.out; omega) hs).mono ?_
    rintro e w2 ⟨x2, rfl, h2, hc2⟩
    have HC2 : Hid _ := Cnt.trans HC1.out hc2
    have H2 : Hid _ := h2
    clear hc2 h2
    go_wp2_with fail
    refine (medianAdj_any (i := k) (Cnt.start HC2.out) (by have := HIJ.out; omega) (by have := HIJ.out; omega) hs).mono ?_
    rintro e w3 ⟨x3, rfl, h3, hc3⟩
    have HC3 : Hid _ := Cnt.trans HC2.out hc3
    have H3 : Hid _ := h3
    clear hc3 h3
    go_wp2_with fail
    refine (median_any (i := x1) (j := x2) (k := x3) (Cnt.start HC3.out) (by have := HIJ.out; have := H1.out; omega) (by have := HIJ.out; have := H2.out; omega) (by have := HIJ.out; have := H3.out; omega)).mono ?_
    rintro e w4 ⟨x4, rfl, h4, hc4⟩
    have HC4 : Hid _ := Cnt.trans HC3.out hc4
    have HR : Hid (a ≤ x4 ∧ x4 < b) := by
      have := HIJ.out; have := H1.out; have := H2.out; have := H3.out
      exact ⟨by omega, by omega⟩
    clear hc4 h4
    obtain ⟨n, hn⟩ := (Cnt.is HC4.out)
    have cn : w4.cell? ⟨w.heap.size, 0, none⟩ = some (.int .i64 n) := row_cell hn 0
    have HBF : Hid (Below w.heap.size w w4) := Kept.below HBA.out (Cnt.kept HC4.out) (Below.size HBA.out) (fun i hi => by omega)
    clear hn
    by_cases hn0 : n = 0
    · subst hn0
      go_wp2_with fail
      go_ret2
      exact ⟨x4, 1, rfl, by have := HR.out; omega, by have := HR.out; omega, by omega, HBF.out⟩
    · have hb0 : (n == 0) = false := by simpa using hn0
      by_cases hn12 : n = 12
      · subst hn12
        clear hb0 hn0
        go_wp2_with fail
        go_ret2
        exact ⟨x4, 2, rfl, by have := HR.out; omega, by have := HR.out; omega, by omega, HBF.out⟩
      · have hb12 : (n == 12) = false := by simpa using hn12
        go_wp2_with fail
        go_ret2
        exact ⟨x4, 0, rfl, by have := HR.out; omega, by have := HR.out; omega, by omega, HBF.out⟩
  · go_enter Try.func54, Try.ntmps54
    go_wp2_with fail
    rw [← hwa]
    clear hwa
    refine (median_any (i := i) (j := j) (k := k) HCA.out (by have := HIJ.out; omega) (by have := HIJ.out; omega) (by have := HIJ.out; omega)).mono ?_
    rintro e w4 ⟨x4, rfl, h4, hc4⟩
    have HC4 : Hid _ := hc4
    have HR : Hid (a ≤ x4 ∧ x4 < b) := by
      have := HIJ.out
      exact ⟨by omega, by omega⟩
    clear hc4 h4
    obtain ⟨n, hn⟩ := (Cnt.is HC4.out)
    have cn : w4.cell? ⟨w.heap.size, 0, none⟩ = some (.int .i64 n) := row_cell hn 0
    have HBF : Hid (Below w.heap.size w w4) := Kept.below HBA.out (Cnt.kept HC4.out) (Below.size HBA.out) (fun i hi => by omega)
    clear hn
    by_cases hn0 : n = 0
    · subst hn0
      go_wp2_with fail
      go_ret2
      exact ⟨x4, 1, rfl, by have := HR.out; omega, by have := HR.out; omega, by omega, HBF.out⟩
    · have hb0 : (n == 0) = false := by simpa using hn0
      by_cases hn12 : n = 12
      · subst hn12
        clear hb0 hn0
        go_wp2_with fail
        go_ret2
        exact ⟨x4, 2, rfl, by have := HR.out; omega, by have := HR.out; omega, by omega, HBF.out⟩
      · have hb12 : (n == 12) = false := by simpa using hn12
        go_wp2_with fail
        go_ret2
        exact ⟨x4, 0, rfl, by have := HR.out; omega, by have := HR.out; omega, by omega, HBF.out⟩
end Go.Proofs.Ytcfmcakdgamdmaa
