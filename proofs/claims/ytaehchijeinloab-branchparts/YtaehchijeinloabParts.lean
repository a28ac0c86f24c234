/- The document's Parts. -/
import Derived.Test.YtaehchijeinloabSplit
namespace Go.Proofs.Ytaehchijeinloab
open Go.RowKit

theorem ret_kids3 {fn : Func} {p q r : Tmp} (h : fn.results = #[.cell p 25, .tmp q, .cell r 25]) {tmps : Array Value} {w : World} {b c : Nat} {x y u x' y' : Value} (hp : tmps.getD p undef = .pointer (some ⟨b, 0, none⟩)) (hq : tmps.getD q undef = u) (hr : tmps.getD r undef = .pointer (some ⟨c, 0, none⟩)) (hB : KBox w b x y) (hC : KBox w c x' y') :
    (results fn tmps).run Try.prog w = .ok (.tuple #[.agg #[x, y], u, .agg #[x', y']]) w := by
  have e1 := run_loadVar_row (P := Try.prog) w b 25 25 #[x, y] (0, 0) _ hB.row Try.underlying25 rfl infoKs
  have e2 := run_loadVar_row (P := Try.prog) w c 25 25 #[x', y'] (0, 0) _ hC.row Try.underlying25 rfl infoKs
  have hp' : tmps[p]?.getD undef = .pointer (some ⟨b, 0, none⟩) := by simpa using hp
  have hq' : tmps[q]?.getD undef = u := by simpa using hq
  have hr' : tmps[r]?.getD undef = .pointer (some ⟨c, 0, none⟩) := by simpa using hr
  simp [results, h, hp', hq', hr', asAddr, e1, e2]
theorem drop_keysAt {B : Nat} {w : World} {g o n c : Nat} {L : List Kc} (h : KeysAt B w (.slice (some ⟨g, o, none⟩) n c) L) (i : Nat) (hi : i ≤ n) (hc : n ≤ c) : KeysAt B w (.slice (if c = i then some ⟨g, o, none⟩ else some ⟨g, o + i, none⟩) (n - i) (c - i)) (L.drop i) := by
  have hl : L.length = n := by obtain ⟨_, _, e⟩ := h.form; cases e; rfl
  by_cases hci : c = i
  · rw [if_pos hci, show n - i = 0 by omega, List.drop_of_length_le (by omega)]
    exact ⟨CellsAt.void _ _ _ _, by simp, fun e he => by simp at he⟩
  · rw [if_neg hci]
    exact h.drop i hi

/-- What Parts gives. -/
structure PartsPost (w w' : World) (ps : List Int) (L : List Kc) (n : Nat) (r : Ending) : Prop where
  is : ∃ va vb e, r = .returned (.tuple #[va, e.v, vb]) ∧ L[n - 1]? = some e ∧ KidsAt w'.heap.size w' va (ps.take n) (L.take (n - 1)) ∧ KidsAt w'.heap.size w' vb (ps.drop n) (L.drop n) ∧ Below w.heap.size w w'

set_option maxHeartbeats 3200000 in
set_option maxRecDepth 100000 in
theorem parts_any {w : World} {v : Value} {ps : List Int} {L : List Kc} {n : Nat} (h : KidsAt w.heap.size w v ps L) (h1n : 1 ≤ n) (hn : n ≤ L.length) (hlL : L.length + 1 = ps.length) :
    Calls Try.prog 17 #[v, .int .i64 n] w fun r w' => PartsPost w w' ps L n r := by
  obtain ⟨vp, vk, rfl, h1, h2⟩ := h.is
  obtain ⟨a1, c1, rfl⟩ := h1.form
  obtain ⟨a2, c2, rfl⟩ := h2.form
  have hs1 := h1.short
  have hs2 := h2.short
  obtain ⟨W, hW⟩ : ∃ W, W = ((w.alloc (.cells #[.slice a1 ps.length c1, .slice a2 L.length c2] 25)).alloc (.cells #[.slice none 0 0, .slice none 0 0] 25)).alloc (.cells #[.slice none 0 0, .slice none 0 0] 25) := ⟨_, rfl⟩
  have HBW : Hid (Below w.heap.size w W) := by rw [hW]; exact ((below_new w _).alloc (by simp) _).alloc (by simp; omega) _
  have HX : Hid (KBox W w.heap.size (.slice a1 ps.length c1) (.slice a2 L.length c2)) := by
    rw [hW]; exact ((KBox.new w _ _).here (below_new _ _)).here (below_new _ _)
  have HY : Hid (KBox W (w.heap.size + 1) (.slice none 0 0) (.slice none 0 0)) := by
    rw [hW]
    have := (KBox.new (w.alloc (.cells #[.slice a1 ps.length c1, .slice a2 L.length c2] 25)) (.slice none 0 0) (.slice none 0 0)).here (below_new _ (.cells #[.slice none 0 0, .slice none 0 0] 25))
    show KBox _ _ _ _
    simpa using this
  have HZ : Hid (KBox W (w.heap.size + 2) (.slice none 0 0) (.slice none 0 0)) := by
    rw [hW]
    have := KBox.new ((w.alloc (.cells #[.slice a1 ps.length c1, .slice a2 L.length c2] 25)).alloc (.cells #[.slice none 0 0, .slice none 0 0] 25)) (.slice none 0 0) (.slice none 0 0)
    show KBox _ _ _ _
    simpa using this
  have HPW : Hid (IntsAt w.heap.size w (.slice a1 ps.length c1) ps) := h1
  have HKW : Hid (KeysAt w.heap.size w (.slice a2 L.length c2) L) := h2
  have HSZ : Hid (W.heap.size = w.heap.size + 1 + 1 + 1) := by rw [hW]; simp [Hid]
  have HP : Hid (IntsAt W.heap.size W (.slice a1 ps.length c1) ps) := h1.here HBW.out
  have HK : Hid (KeysAt W.heap.size W (.slice a2 L.length c2) L) := h2.here HBW.out
  clear h h1 h2
  obtain ⟨g1, o1, e1⟩ : ∃ g off, a1 = some ⟨g, off, none⟩ := by
    obtain ⟨x, hx⟩ : ∃ x, ps[0]? = some x := ⟨ps[0]'(by omega), List.getElem?_eq_getElem _⟩
    obtain ⟨g, off, c, e, _⟩ := HP.out.cell 0 x hx
    cases e
    exact ⟨g, off, rfl⟩
  obtain ⟨g2, o2, e2⟩ : ∃ g off, a2 = some ⟨g, off, none⟩ := by
    obtain ⟨x, hx⟩ : ∃ x, L[0]? = some x := ⟨L[0]'(by omega), List.getElem?_eq_getElem _⟩
    obtain ⟨g, off, c, e, _⟩ := HK.out.cell 0 x hx
    cases e
    exact ⟨g, off, rfl⟩
  subst e1
  subst e2
  have HG2 : Hid (g2 < w.heap.size) := by
    obtain ⟨x, hx⟩ : ∃ x, L[0]? = some x := ⟨L[0]'(by omega), List.getElem?_eq_getElem _⟩
    obtain ⟨a, c, e, _, _, hc⟩ := HKW.out.row.is
    simp only [List.length_map] at e
    cases e
    obtain ⟨g, off, e, h, _⟩ := hc 0 x.v (by rw [List.getElem?_map, hx]; rfl)
    cases e
    exact h
  have hc1 : ps.length ≤ c1 := by
    obtain ⟨a, c, e, h, _⟩ := HP.out.row.is
    simp only [List.length_map] at e h
    cases e; exact h
  have hc2 : L.length ≤ c2 := by
    obtain ⟨a, c, e, h, _⟩ := HK.out.row.is
    simp only [List.length_map] at e h
    cases e; exact h
  obtain ⟨k, hk⟩ : ∃ k : Nat, n = k + 1 := ⟨n - 1, by omega⟩
  have HNK : Hid (n = k + 1) := hk
  have hkz : (n : Int) - 1 = (k : Int) := by omega
  have hkc : (k : Int) ≤ (c2 : Int) := by omega
  have hnc : (n : Int) ≤ (c1 : Int) := by omega
  have hnp : (n : Int) ≤ (ps.length : Int) := by omega
  have hnl : (n : Int) ≤ (L.length : Int) := by omega
  have hkl : (k : Int) < (L.length : Int) := by omega
  have hcn : c1 ≠ n := by omega
  clear hk
  obtain ⟨e0, he0⟩ : ∃ e, L[k]? = some e := ⟨L[k]'(by omega), List.getElem?_eq_getElem _⟩
  have HE0 : Hid (L[k]? = some e0) := he0
  obtain ⟨b0, d0, p0⟩ := (HK.out.ok e0 (List.mem_of_getElem? he0)).form
  have HP0 : Hid (e0.v = .slice b0 e0.k.length d0) := p0
  have hg2 : g2 < w.heap.size := HG2.out
  have HCE : Hid (∀ W', Below W.heap.size W W' → W'.cell? ⟨g2, o2 + k, none⟩ = some (.slice b0 e0.k.length d0)) := fun W' hb => by
    obtain ⟨g, off, _, q0, hcell0⟩ := (HK.out.here hb).cell k e0 he0
    cases q0
    rw [p0] at hcell0
    exact hcell0
  clear he0 p0
  obtain ⟨x0, x1⟩ := HX.out.cells
  have xa0 : ∀ o, (W.alloc o).cell? ⟨w.heap.size, 0, none⟩ = some (.slice (some ⟨g1, o1, none⟩) ps.length c1) := fun o => ((HX.out.here (below_new _ _)).cells).1
  have xa1 : ∀ o, (W.alloc o).cell? ⟨w.heap.size, 1, none⟩ = some (.slice (some ⟨g2, o2, none⟩) L.length c2) := fun o => ((HX.out.here (below_new _ _)).cells).2
  go_enter Try.func17, Try.ntmps17
  go_upto_region 1 with fail
  rw [← hW]
  clear hW
  go_region
  obtain ⟨W1, hW1⟩ : ∃ W1, W1 = (W.alloc (.cells #[.slice (some ⟨g1, o1, none⟩) n c1, .slice (some ⟨g2, o2, none⟩) k c2] 25)).drew := ⟨_, rfl⟩
  have HB1 : Hid (Below W.heap.size W W1) := by rw [hW1]; exact (below_new _ _).drew
  have HA1 : Hid (KBox W1 W.heap.size (.slice (some ⟨g1, o1, none⟩) n c1) (.slice (some ⟨g2, o2, none⟩) k c2)) := by rw [hW1]; exact ⟨(KBox.new _ _ _).row⟩
  rw [← hW1]
  clear hW1 x0 x1 xa0 xa1
  obtain ⟨x0, x1⟩ := (HX.out.here HB1.out).cells
  have xa0 : ∀ o, (W1.alloc o).cell? ⟨w.heap.size, 0, none⟩ = some (.slice (some ⟨g1, o1, none⟩) ps.length c1) := fun o => (((HX.out.here HB1.out).here (below_new _ _)).cells).1
  have xa1 : ∀ o, (W1.alloc o).cell? ⟨w.heap.size, 1, none⟩ = some (.slice (some ⟨g2, o2, none⟩) L.length c2) := fun o => (((HX.out.here HB1.out).here (below_new _ _)).cells).2
  go_upto_region 2 with fail
  go_region
  obtain ⟨A2, hA2⟩ : ∃ A : Option Addr, A = if c2 = n then some ⟨g2, o2, none⟩ else some ⟨g2, o2 + n, none⟩ := ⟨_, rfl⟩
  rw [← hA2]
  obtain ⟨W2, hW2⟩ : ∃ W2, W2 = (W1.alloc (.cells #[.slice (some ⟨g1, o1 + n, none⟩) (ps.length - n) (c1 - n), .slice A2 (L.length - n) (c2 - n)] 25)).drew := ⟨_, rfl⟩
  have hb12 : Below W1.heap.size W1 W2 := by rw [hW2]; exact (below_new _ _).drew
  have HB2 : Hid (Below W.heap.size W W2) := HB1.out.trans (hb12.mono HB1.out.size)
  have HA : Hid (KBox W2 W.heap.size (.slice (some ⟨g1, o1, none⟩) n c1) (.slice (some ⟨g2, o2, none⟩) k c2)) := HA1.out.here hb12
  have HBB : Hid (KBox W2 W1.heap.size (.slice (some ⟨g1, o1 + n, none⟩) (ps.length - n) (c1 - n)) (.slice A2 (L.length - n) (c2 - n))) := by rw [hW2]; exact ⟨(KBox.new _ _ _).row⟩
  have HY2 : Hid (KBox W2 (w.heap.size + 1) (.slice none 0 0) (.slice none 0 0)) := HY.out.here HB2.out
  have HZ2 : Hid (KBox W2 (w.heap.size + 1 + 1) (.slice none 0 0) (.slice none 0 0)) := HZ.out.here HB2.out
  have HKD : Hid (KeysAt w.heap.size w (.slice A2 (L.length - n) (c2 - n)) (L.drop n)) := by rw [hA2]; exact drop_keysAt HKW.out n hn hc2
  rw [← hW2]
  clear hW2 hA2 hb12 x0 x1 xa0 xa1
  obtain ⟨x0, x1⟩ := (HX.out.here HB2.out).cells
  obtain ⟨y0, y1⟩ := HY2.out.cells
  obtain ⟨z0, z1⟩ := HZ2.out.cells
  obtain ⟨fy0, fy1⟩ := HY2.out.open
  obtain ⟨fz0, fz1⟩ := HZ2.out.open
  obtain ⟨p0, p1⟩ := HA.out.cells
  obtain ⟨q0, q1⟩ := HBB.out.cells
  have ce := HCE.out W2 HB2.out
  have hs11 := HB1.out.size
  have s1 : W.heap.size ≠ w.heap.size + 1 := by rw [HSZ.out]; omega
  have s2 : W.heap.size ≠ w.heap.size + 1 + 1 := by rw [HSZ.out]; omega
  have s3 : W1.heap.size ≠ w.heap.size + 1 := by have := HSZ.out; omega
  have s4 : W1.heap.size ≠ w.heap.size + 1 + 1 := by have := HSZ.out; omega
  have s5 : g2 ≠ w.heap.size + 1 := by omega
  have s6 : g2 ≠ w.heap.size + 1 + 1 := by omega
  have s1' := s1.symm
  have s2' := s2.symm
  have s3' := s3.symm
  have s4' := s4.symm
  have s5' := s5.symm
  have s6' := s6.symm
  clear hs11
  go_upto_region 3 with fail
  go_region
  have HBE : Hid (Below w.heap.size w ((((W2.setCell ⟨w.heap.size + 1, 0, none⟩ (.slice (some ⟨g1, o1, none⟩) n c1)).setCell ⟨w.heap.size + 1, 1, none⟩ (.slice (some ⟨g2, o2, none⟩) k c2)).setCell ⟨w.heap.size + 1 + 1, 0, none⟩ (.slice (some ⟨g1, o1 + n, none⟩) (ps.length - n) (c1 - n))).setCell ⟨w.heap.size + 1 + 1, 1, none⟩ (.slice A2 (L.length - n) (c2 - n))).drew) :=
    (((((HBW.out.trans (HB2.out.mono HBW.out.size)).setCell (p := ⟨w.heap.size + 1, 0, none⟩) (by show w.heap.size ≤ w.heap.size + 1; omega) _).setCell (p := ⟨w.heap.size + 1, 1, none⟩) (by show w.heap.size ≤ w.heap.size + 1; omega) _).setCell (p := ⟨w.heap.size + 1 + 1, 0, none⟩) (by show w.heap.size ≤ w.heap.size + 1 + 1; omega) _).setCell (p := ⟨w.heap.size + 1 + 1, 1, none⟩) (by show w.heap.size ≤ w.heap.size + 1 + 1; omega) _).drew
  have b1 : KBox ((((W2.setCell ⟨w.heap.size + 1, 0, none⟩ (.slice (some ⟨g1, o1, none⟩) n c1)).setCell ⟨w.heap.size + 1, 1, none⟩ (.slice (some ⟨g2, o2, none⟩) k c2)).setCell ⟨w.heap.size + 1 + 1, 0, none⟩ (.slice (some ⟨g1, o1 + n, none⟩) (ps.length - n) (c1 - n))).setCell ⟨w.heap.size + 1 + 1, 1, none⟩ (.slice A2 (L.length - n) (c2 - n))).drew (w.heap.size + 1) (.slice (some ⟨g1, o1, none⟩) n c1) (.slice (some ⟨g2, o2, none⟩) k c2) :=
    ⟨(((HY2.out.put _ _).other _ (by omega)).other _ (by omega)).row⟩
  have b2 : KBox ((((W2.setCell ⟨w.heap.size + 1, 0, none⟩ (.slice (some ⟨g1, o1, none⟩) n c1)).setCell ⟨w.heap.size + 1, 1, none⟩ (.slice (some ⟨g2, o2, none⟩) k c2)).setCell ⟨w.heap.size + 1 + 1, 0, none⟩ (.slice (some ⟨g1, o1 + n, none⟩) (ps.length - n) (c1 - n))).setCell ⟨w.heap.size + 1 + 1, 1, none⟩ (.slice A2 (L.length - n) (c2 - n))).drew (w.heap.size + 1 + 1) (.slice (some ⟨g1, o1 + n, none⟩) (ps.length - n) (c1 - n)) (.slice A2 (L.length - n) (c2 - n)) :=
    ⟨(((HZ2.out.other _ (by omega)).other _ (by omega)).put _ _).row⟩
  have HB1' : Hid _ := b1
  have HB2' : Hid _ := b2
  have hk := HNK.out
  clear b1 b2
  go_wp2_with fail
  refine bodyPost_ret (ret_kids3 (u := .slice b0 e0.k.length d0) rfl rfl rfl rfl HB1'.out HB2'.out) rfl ⟨_, _, e0, by rw [HP0.out], by rw [hk]; exact HE0.out, ?_, ?_, HBE.out⟩
  · refine KidsAt.here (w := w) ⟨_, _, rfl, HPW.out.take n (by omega) c1 (by omega) (Nat.le_refl _), ?_⟩ HBE.out
    rw [hk]
    exact HKW.out.take k (by omega) c2 (by omega) (Nat.le_refl _)
  · exact KidsAt.here (w := w) ⟨_, _, rfl, HPW.out.drop n (by omega), HKD.out⟩ HBE.out
end Go.Proofs.Ytaehchijeinloab
