/- DeadPlays: the walk. -/
import Derived.Test.YtcfmcakdgamdmaaPlaysP
import Derived.Test.YtcfmcakdgamdmaaOpsIn
import Derived.Test.YtcfmcakdgamdmaaAwake
namespace Go.Proofs.Ytcfmcakdgamdmaa
open Go.RowKit

theorem i64_wf {n : Nat} (h : n ≤ 1954687338269) : (Lit.int .i64 (n : Int)).wf = true := by
  simp [Lit.wf, IntKind.min, IntKind.max, IntKind.bits, IntKind.signed]; omega
set_option maxHeartbeats 1600000 in
set_option maxRecDepth 100000 in
theorem plays_any {w : World} {v : Value} {L : List Ov} (h : OpsIn w v L) :
    Calls Try.prog 4 #[v] w fun e w' => e = .returned (.bool true) ∧ Below w.heap.size w w' := by
  obtain ⟨⟨a, c, rfl, hcell⟩, hl⟩ := h
  have HCE : Hid (∀ (i : Nat) (o : Ov), L[i]? = some o → ∃ g off, a = some ⟨g, off, none⟩ ∧ g < w.heap.size ∧ OvIn w g (off + i * 7) o) := hcell
  clear hcell
  go_enter Try.func4, Try.ntmps4
  go_wp2_with fail
  refine (awake_any w).mono ?_
  rintro r w1 ⟨rfl, hb1⟩
  have HB1 : Hid (Below w.heap.size w w1) := hb1
  clear hb1
  go_wp2_with fail
  obtain ⟨w2, hw2⟩ : ∃ w2, w2 = w1.alloc (.cells #[.slice none 0 0, .slice none 0 0, .slice none 0 0, .slice none 0 0, .slice none 0 0, .slice none 0 0, .int .i64 0] 30) := ⟨_, rfl⟩
  have HBB : Hid (Below w.heap.size w w2) := by
    rw [hw2]
    exact HB1.out.trans ((below_new w1 _).mono HB1.out.size)
  have HF : Hid (Calls Try.prog 8 #[ptr w1.heap.size, .agg #[.int .i64 1, .int .i64 0, .int .i64 0, .int .u64 0, .int .u64 0, .slice none 0 0, .int .u64 0]] w2 fun r w' => r = .returned (.bool true) ∧ Al w.heap.size w' w1.heap.size 1 0 0 0 ∧ Below w.heap.size w2 w') := first_any (by rw [hw2]; exact heap_alloc_last w1 _) HB1.out.size
  rw [← hw2]
  generalize w1.heap.size = W at *
  clear hw2 HB1
  refine Calls.mono HF.out ?_
  rintro r w3 ⟨rfl, h3, h4⟩
  have HA : Hid (Al w.heap.size w3 W 1 0 0 0) := h3
  have HB : Hid (Below w.heap.size w w3) := HBB.out.trans h4
  clear h3 h4 HF HBB
  go_wp2_with fail
  go_loopw [6, 5] (fun s ok wr => ∃ i m x : Nat, i ≤ L.length ∧ s = .int .i64 i ∧ ok = .bool true ∧ Al w.heap.size wr W m i (2 * i) x ∧ 0 < m ∧ x + 2 * m ≤ 2 * (i + 1) ∧ Below w.heap.size w wr) (fun s _ _ => L.length - (intOf s).toNat)
  case atStart => exact ⟨0, 1, 0, by omega, rfl, rfl, HA.out, by omega, by omega, HB.out⟩
  case round =>
    clear HA HB
    obtain ⟨i, m, x, hi, rfl, rfl, hA, hm, hx, hB⟩ := hrel
    have HA : Hid (Al w.heap.size wr W m i (2 * i) x) := hA
    have HB : Hid (Below w.heap.size w wr) := hB
    have HX : Hid (0 < m ∧ x + 2 * m ≤ 2 * (i + 1)) := ⟨hm, hx⟩
    obtain ⟨⟨al, cl, c0⟩, z, c6⟩ := hA.cells
    clear hA hB hm hx
    by_cases hgo : i < L.length ∧ z ≤ 2147483647
    · obtain ⟨hlt, hz⟩ := hgo
      have hiz : (i : Int) < (L.length : Int) := by omega
      obtain ⟨o, ho⟩ : ∃ o, L[i]? = some o := ⟨_, List.getElem?_eq_getElem hlt⟩
      obtain ⟨g, off, rfl, hg, hov⟩ := HCE.out i o ho
      have k0 : wr.cell? ⟨g, off + i * 7, none⟩ = some (.int .i64 o.kind) := (Below.cell (p := ⟨g, off + i * 7, none⟩) HB.out hg).trans hov.c0
      have k1 : wr.cell? ⟨g, off + i * 7 + 1, none⟩ = some (.int .i64 o.on) := (Below.cell (p := ⟨g, off + i * 7 + 1, none⟩) HB.out hg).trans hov.c1
      have k2 : wr.cell? ⟨g, off + i * 7 + 2, none⟩ = some (.int .i64 o.x.p) := (Below.cell (p := ⟨g, off + i * 7 + 2, none⟩) HB.out hg).trans hov.c2
      have k3 : wr.cell? ⟨g, off + i * 7 + 3, none⟩ = some (.int .u64 o.x.b) := (Below.cell (p := ⟨g, off + i * 7 + 3, none⟩) HB.out hg).trans hov.c3
      have k4 : wr.cell? ⟨g, off + i * 7 + 4, none⟩ = some (.int .u64 o.x.d) := (Below.cell (p := ⟨g, off + i * 7 + 4, none⟩) HB.out hg).trans hov.c4
      have k5 : wr.cell? ⟨g, off + i * 7 + 5, none⟩ = some o.sv := (Below.cell (p := ⟨g, off + i * 7 + 5, none⟩) HB.out hg).trans hov.c5
      have k6 : wr.cell? ⟨g, off + i * 7 + 6, none⟩ = some (.int .u64 o.snap) := (Below.cell (p := ⟨g, off + i * 7 + 6, none⟩) HB.out hg).trans hov.c6
      have HS : Hid (Calls Try.prog 8 #[ptr W, .agg #[.int .i64 o.kind, .int .i64 o.on, .int .i64 o.x.p, .int .u64 o.x.b, .int .u64 o.x.d, o.sv, .int .u64 o.snap]] wr fun r w' => r = .returned (.bool true) ∧ (∃ m' x', Al w.heap.size w' W m' (i + 1) (2 * i + 2) x' ∧ 0 < m' ∧ x' + 2 * m' ≤ x + 2 * m + 2) ∧ Below w.heap.size wr w') := step_any HA.out HX.out.1 hov.won (hov.sn.below HB.out) (by have := HX.out.2; omega) (by omega) (by omega) (by have := HX.out.2; omega)
      obtain ⟨sa, sn, sc, hsv⟩ : ∃ a n c, o.sv = .slice a n c := by obtain ⟨a, c, e, _⟩ := hov.sn.is; exact ⟨a, _, c, e⟩
      rw [hsv] at k5 HS
      clear hov ho hsv
      go_wp2_with fail
      refine Calls.mono HS.out ?_
      rintro r w4 ⟨rfl, h4, h5⟩
      have H4 : Hid (∃ m' x', Al w.heap.size w4 W m' (i + 1) (2 * i + 2) x' ∧ 0 < m' ∧ x' + 2 * m' ≤ x + 2 * m + 2) := h4
      have HB4 : Hid (Below w.heap.size w w4) := HB.out.trans h5
      clear h4 h5 k0 k1 k2 k3 k4 k5 k6 HS c0 c6
      go_wp2_with fail
      obtain ⟨m', x', h1, h2, h3⟩ := H4.out
      exact ⟨⟨i + 1, m', x', by omega, by go_num, rfl, h1, h2, by have := HX.out.2; omega, HB4.out⟩, by simp [intOf]; omega⟩
    · have HI : Hid (i ≤ 1954687338211 ∧ m ≤ 1954687338212 ∧ x + 2 * m ≤ 3909374676424) := ⟨by omega, by have := HX.out; omega, by have := HX.out; omega⟩
      have hways : ((i : Int) < (L.length : Int) ∧ ¬ z ≤ 2147483647) ∨ ¬ (i : Int) < (L.length : Int) := by omega
      obtain ⟨w4, rfl⟩ : ∃ w4, w4 = wr := ⟨_, rfl⟩
      clear hgo
      rcases hways with ⟨hiz, hz⟩ | hiz
      all_goals
        go_wp2_with fail
        clear c0 c6 hiz
        go_loopw [7, 5] (fun s ok wr => ∃ j : Nat, j ≤ m ∧ s = .int .i64 j ∧ ok = .bool true ∧ Al w.heap.size wr W m i (2 * i) (x + 2 * j) ∧ Below w.heap.size w wr) (fun s _ _ => m - (intOf s).toNat)
        case atStart => exact ⟨0, by omega, rfl, rfl, HA.out, HB.out⟩
        case round =>
          clear HA HB
          obtain ⟨j, hj, rfl, rfl, hA, hB⟩ := hrel
          have HA : Hid (Al w.heap.size wr W m i (2 * i) (x + 2 * j)) := hA
          have HB : Hid (Below w.heap.size w wr) := hB
          obtain ⟨⟨al, cl, c0⟩, _⟩ := hA.cells
          clear hA hB
          by_cases hlt : j < m
          · have hjz : (j : Int) < (m : Int) := by omega
            have hmz : (m : Int) ≤ 1954687338212 := by have := HI.out; omega
            have HS : Hid (Calls Try.prog 8 #[ptr W, .agg #[.int .i64 5, .int .i64 j, .int .i64 0, .int .u64 0, .int .u64 0, .slice none 0 0, .int .u64 0]] wr fun r w' => r = .returned (.bool true) ∧ Al w.heap.size w' W m i (2 * i) (x + 2 * j + 2) ∧ Below w.heap.size wr w') := last_any HA.out HX.out.1 (i64_wf (by have := HI.out; omega)) (by have := HI.out; omega) (by have := HI.out; omega) (by have := HI.out; omega)
            go_wp2_with fail
            refine Calls.mono HS.out ?_
            rintro r w5 ⟨rfl, h4, h5⟩
            have H4 : Hid (Al w.heap.size w5 W m i (2 * i) (x + 2 * j + 2)) := h4
            have HB5 : Hid (Below w.heap.size w w5) := HB.out.trans h5
            clear h4 h5 HS c0
            go_wp2_with fail
            exact ⟨⟨j + 1, by omega, by go_num, rfl, H4.out, HB5.out⟩, by simp [intOf]; omega⟩
          · have hjz : ¬ (j : Int) < (m : Int) := by omega
            have HM : Hid (Calls Try.prog 9 #[ptr W] wr fun e w' => e = .returned (.bool true) ∧ Below w.heap.size wr w') := ends_al HA.out (by have := HI.out; omega) (by have := HI.out; omega) (by have := HI.out; omega)
            go_wp2_with fail
            refine Calls.mono HM.out ?_
            rintro r w5 ⟨rfl, h5⟩
            clear HM c0
            go_wp2_with fail
            go_ret
            exact ⟨rfl, HB.out.trans h5⟩
end Go.Proofs.Ytcfmcakdgamdmaa
