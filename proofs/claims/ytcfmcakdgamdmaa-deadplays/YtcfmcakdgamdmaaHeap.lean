/- siftDown, heapSort, reverseRange. -/
import Derived.Test.YtcfmcakdgamdmaaSame
namespace Go.Proofs.Ytcfmcakdgamdmaa
open Go.RowKit Go.Sort

theorem sift_stop {hi f r : Nat} {d : Array Int} (h : hi ≤ 2 * r + 1) : siftDown ltInt hi f r d = d := by
  rw [siftDown, dif_pos h]
theorem sift_one {hi f r ch : Nat} {d : Array Int} (h : 2 * r + 1 < hi) (hch : (ch = 2 * r + 2 ∧ 2 * r + 2 < hi ∧ d[f + (2 * r + 1)]! < d[f + (2 * r + 1) + 1]!) ∨ (ch = 2 * r + 1 ∧ ¬ (2 * r + 2 < hi ∧ d[f + (2 * r + 1)]! < d[f + (2 * r + 1) + 1]!))) :
    siftDown ltInt hi f r d = if d[f + r]! < d[f + ch]! then siftDown ltInt hi f ch (swp d (f + r) (f + ch)) else d := by
  rw [siftDown, dif_neg (by omega)]
  rcases hch with ⟨rfl, h1, h2⟩ | ⟨rfl, h1⟩
  · rw [if_pos (by simp [ltInt, h2]; omega)]
    by_cases h3 : d[f + r]! < d[f + (2 * r + 2)]!
    · rw [if_neg (by simpa [ltInt] using h3), dif_pos h1, if_pos h3]
    · rw [if_pos (by simpa [ltInt] using h3), if_neg h3]
  · rw [if_neg (by simp [ltInt]; intro a; apply Int.not_lt.1; intro b; exact h1 ⟨by omega, b⟩)]
    by_cases h3 : d[f + r]! < d[f + (2 * r + 1)]!
    · rw [if_neg (by simpa [ltInt] using h3), if_pos h3]
    · rw [if_pos (by simpa [ltInt] using h3), if_neg h3]
theorem sift_size (hi f r : Nat) (d : Array Int) : (siftDown ltInt hi f r d).size = d.size := by
  fun_induction siftDown ltInt hi f r d <;> simp_all [swp_size]
set_option maxHeartbeats 3200000 in
set_option maxRecDepth 100000 in
theorem sift_any {w : World} {g c cc lo hi f : Nat} {d : Array Int} (h : URow w w g c d) (hb : f + hi ≤ d.size) (hlo : lo ≤ d.size) (hs : d.size ≤ 140737488355328) :
    Calls Try.prog 66 #[.slice (some ⟨g, 0, none⟩) d.size cc, .int .i64 (lo : Int), .int .i64 (hi : Int), .int .i64 (f : Int)] w fun e w' => SwapPost w g c (siftDown ltInt hi f lo d) e w' := by
  have HU : Hid _ := h
  clear h
  go_enter Try.func66, Try.ntmps66
  go_wp2_with fail
  go_loopw [8, 9] (fun vr _ wx => ∃ (r : Nat) (e : Array Int), r ≤ d.size ∧ vr = .int .i64 r ∧ e.size = d.size ∧ siftDown ltInt hi f r e = siftDown ltInt hi f lo d ∧ URow w wx g c e) (fun vr _ _ => d.size + 1 - (intOf vr).toNat)
  case atStart => exact ⟨lo, d, hlo, rfl, rfl, rfl, HU.out⟩
  case round =>
    obtain ⟨r, e, hr, rfl, hes, heq, hur⟩ := hrel
    have HEQ : Hid _ := heq
    have HES : Hid _ := hes
    have HUR : Hid _ := hur
    clear heq
    obtain ⟨k, hk⟩ : ∃ k, k = 2 * r + 1 := ⟨_, rfl⟩
    have hkz : 2 * (r : Int) + 1 = (k : Int) := by omega
    by_cases hst : hi ≤ k
    · have hstz : (hi : Int) ≤ (k : Int) := by omega
      have HS : Hid (siftDown ltInt hi f r e = e) := sift_stop (by omega)
      clear hk hes hur
      go_wp2_with fail
      go_end0
      exact ⟨rfl, by rw [← HEQ.out, HS.out]; exact HUR.out⟩
    · have hstz : ¬ (hi : Int) ≤ (k : Int) := by omega
      have hstw : (k : Int) < (hi : Int) := by omega
      obtain ⟨pr, hpr⟩ : ∃ pr, pr = f + r := ⟨_, rfl⟩
      obtain ⟨pk, hpk⟩ : ∃ pk, pk = f + k := ⟨_, rfl⟩
      have hprz : (f : Int) + (r : Int) = (pr : Int) := by omega
      have hpkz : (f : Int) + (k : Int) = (pk : Int) := by omega
      have hprn : (pr : Int) < (d.size : Int) := by omega
      have hpkn : (pk : Int) < (d.size : Int) := by omega
      have wpr : IntKind.i64.wrap (pr : Int) = (pr : Int) := by rw [IntKind.wrap_i64]; omega
      have wpk : IntKind.i64.wrap (pk : Int) = (pk : Int) := by rw [IntKind.wrap_i64]; omega
      have cr := hur.cell (show pr < e.size by omega)
      have ck := hur.cell (show pk < e.size by omega)
      have fr := hur.frozen pr
      have fk := hur.frozen pk
      by_cases hc2 : k + 1 < hi
      · have hc2z : (k : Int) + 1 < (hi : Int) := by omega
        obtain ⟨m, hm⟩ : ∃ m, m = k + 1 := ⟨_, rfl⟩
        have hmz : (k : Int) + 1 = (m : Int) := by omega
        obtain ⟨pm, hpm⟩ : ∃ pm, pm = f + m := ⟨_, rfl⟩
        have hpmz : (f : Int) + (m : Int) = (pm : Int) := by omega
        have hpmy : (pk : Int) + 1 = (pm : Int) := by omega
        have hpmn : (pm : Int) < (d.size : Int) := by omega
        have hmh : (m : Int) < (hi : Int) := by omega
        have wpm : IntKind.i64.wrap (pm : Int) = (pm : Int) := by rw [IntKind.wrap_i64]; omega
        have wm : IntKind.i64.wrap (m : Int) = (m : Int) := by rw [IntKind.wrap_i64]; omega
        have cm := hur.cell (show pm < e.size by omega)
        have fm := hur.frozen pm
        by_cases hch : e[pk]! < e[pm]!
        · have hone := sift_one (hi := hi) (f := f) (r := r) (ch := m) (d := e) (by omega) (.inl ⟨by omega, by omega, by rw [show f + (2 * r + 1) = pk by omega, show pk + 1 = pm by omega]; exact hch⟩)
          rw [← hpr, show f + m = pm by omega] at hone
          have HON : Hid _ := hone
          clear hone
          by_cases hl : e[pr]! < e[pm]!
          · have HSW : Hid (∀ q, URow w (((wr.drewN q).setCell ⟨g, pr, none⟩ (.int .u64 e[pm]!)).setCell ⟨g, pm, none⟩ (.int .u64 e[pr]!)) g c (swp e pr pm)) := fun q => (HUR.out.draws q).swap (by have := HES.out; omega) (by have := HES.out; omega)
            have HNX : Hid (siftDown ltInt hi f r e = siftDown ltInt hi f m (swp e pr pm)) := by show _ = _; rw [HON.out, if_pos hl]
            have hrc : r < m := by omega
            have hcd : m ≤ d.size := by omega
            generalize e[pr]! = xr at cr hl HSW
            generalize e[pk]! = xk at ck hch HSW
            generalize e[pm]! = xm at cm hch hl HSW
            clear hk hpr hpk hm hpm hes hur HON hc2 hc2z
            go_wp2_with fail
            go_quiet (((go_at_call 57; exact Calls.quiet_of_same (lessU_any _ _ _))))
            go_wp2_with fail
            generalize hwz : wr.drewN nq = wz
            have cr' : wz.cell? ⟨g, pr, none⟩ = some (.int .u64 xr) := by rw [← hwz]; exact cr
            have cc' : wz.cell? ⟨g, pm, none⟩ = some (.int .u64 xm) := by rw [← hwz]; exact cm
            have fr' : wz.frozen? ⟨g, pr, none⟩ = false := by rw [← hwz]; exact fr
            have fc' : wz.frozen? ⟨g, pm, none⟩ = false := by rw [← hwz]; exact fm
            have HSZ : Hid (∀ q, URow w (((wz.drewN q).setCell ⟨g, pr, none⟩ (.int .u64 xm)).setCell ⟨g, pm, none⟩ (.int .u64 xr)) g c (swp e pr pm)) := fun q => by rw [← hwz, draws_add]; exact HSW.out _
            clear hwz
            go_quiet ((go_at_call 57; exact Calls.quiet_of_same (lessU_any _ _ _)))
            go_wp2_with fail
            go_region
            all_goals
              go_wp2_with fail
              exact ⟨⟨m, swp e pr pm, hcd, by go_num, by rw [swp_size]; exact HES.out, by rw [← HNX.out]; exact HEQ.out, HSZ.out _⟩, by simp [intOf]; omega⟩
          · have HNX : Hid (siftDown ltInt hi f r e = e) := by show _ = _; rw [HON.out, if_neg hl]
            generalize e[pr]! = xr at cr hl
            generalize e[pk]! = xk at ck hch
            generalize e[pm]! = xm at cm hch hl
            have hlb : decide (xr < xm) = false := by simpa using hl
            clear hl
            clear hk hpr hpk hm hpm hes hur HON hc2 hc2z
            go_wp2_with fail
            go_quiet (((go_at_call 57; exact Calls.quiet_of_same (lessU_any _ _ _))))
            go_wp2_with fail
            generalize hwz : wr.drewN nq = wz
            have cr' : wz.cell? ⟨g, pr, none⟩ = some (.int .u64 xr) := by rw [← hwz]; exact cr
            have cc' : wz.cell? ⟨g, pm, none⟩ = some (.int .u64 xm) := by rw [← hwz]; exact cm
            have fr' : wz.frozen? ⟨g, pr, none⟩ = false := by rw [← hwz]; exact fr
            have fc' : wz.frozen? ⟨g, pm, none⟩ = false := by rw [← hwz]; exact fm
            have HUZ : Hid (URow w wz g c e) := by rw [← hwz]; exact HUR.out.draws _
            clear hwz
            go_quiet ((go_at_call 57; exact Calls.quiet_of_same (lessU_any _ _ _)))
            go_wp2_with fail
            refine bodyPost_ret (results_none rfl _ _ _) rfl ?_
            exact ⟨rfl, by rw [← HEQ.out, HNX.out]; exact HUZ.out.draws _⟩
        · have hone := sift_one (hi := hi) (f := f) (r := r) (ch := k) (d := e) (by omega) (.inr ⟨hk, fun hh => hch (by have := hh.2; rw [show f + (2 * r + 1) = pk by omega, show pk + 1 = pm by omega] at this; exact this)⟩)
          rw [← hpr, show f + k = pk by omega] at hone
          have HON : Hid _ := hone
          clear hone
          by_cases hl : e[pr]! < e[pk]!
          · have HSW : Hid (∀ q, URow w (((wr.drewN q).setCell ⟨g, pr, none⟩ (.int .u64 e[pk]!)).setCell ⟨g, pk, none⟩ (.int .u64 e[pr]!)) g c (swp e pr pk)) := fun q => (HUR.out.draws q).swap (by have := HES.out; omega) (by have := HES.out; omega)
            have HNX : Hid (siftDown ltInt hi f r e = siftDown ltInt hi f k (swp e pr pk)) := by show _ = _; rw [HON.out, if_pos hl]
            have hrc : r < k := by omega
            have hcd : k ≤ d.size := by omega
            generalize e[pr]! = xr at cr hl HSW
            generalize e[pk]! = xk at ck hch hl HSW
            generalize e[pm]! = xm at cm hch
            clear hk hpr hpk hm hpm hes hur HON hc2 hc2z
            go_wp2_with fail
            go_quiet (((go_at_call 57; exact Calls.quiet_of_same (lessU_any _ _ _))))
            go_wp2_with fail
            generalize hwz : wr.drewN nq = wz
            have cr' : wz.cell? ⟨g, pr, none⟩ = some (.int .u64 xr) := by rw [← hwz]; exact cr
            have cc' : wz.cell? ⟨g, pk, none⟩ = some (.int .u64 xk) := by rw [← hwz]; exact ck
            have fr' : wz.frozen? ⟨g, pr, none⟩ = false := by rw [← hwz]; exact fr
            have fc' : wz.frozen? ⟨g, pk, none⟩ = false := by rw [← hwz]; exact fk
            have HSZ : Hid (∀ q, URow w (((wz.drewN q).setCell ⟨g, pr, none⟩ (.int .u64 xk)).setCell ⟨g, pk, none⟩ (.int .u64 xr)) g c (swp e pr pk)) := fun q => by rw [← hwz, draws_add]; exact HSW.out _
            clear hwz
            go_quiet ((go_at_call 57; exact Calls.quiet_of_same (lessU_any _ _ _)))
            go_wp2_with fail
            go_region
            all_goals
              go_wp2_with fail
              exact ⟨⟨k, swp e pr pk, hcd, by go_num, by rw [swp_size]; exact HES.out, by rw [← HNX.out]; exact HEQ.out, HSZ.out _⟩, by simp [intOf]; omega⟩
          · have HNX : Hid (siftDown ltInt hi f r e = e) := by show _ = _; rw [HON.out, if_neg hl]
            generalize e[pr]! = xr at cr hl
            generalize e[pk]! = xk at ck hch hl
            generalize e[pm]! = xm at cm hch
            have hlb : decide (xr < xk) = false := by simpa using hl
            clear hl
            clear hk hpr hpk hm hpm hes hur HON hc2 hc2z
            go_wp2_with fail
            go_quiet (((go_at_call 57; exact Calls.quiet_of_same (lessU_any _ _ _))))
            go_wp2_with fail
            generalize hwz : wr.drewN nq = wz
            have cr' : wz.cell? ⟨g, pr, none⟩ = some (.int .u64 xr) := by rw [← hwz]; exact cr
            have cc' : wz.cell? ⟨g, pk, none⟩ = some (.int .u64 xk) := by rw [← hwz]; exact ck
            have fr' : wz.frozen? ⟨g, pr, none⟩ = false := by rw [← hwz]; exact fr
            have fc' : wz.frozen? ⟨g, pk, none⟩ = false := by rw [← hwz]; exact fk
            have HUZ : Hid (URow w wz g c e) := by rw [← hwz]; exact HUR.out.draws _
            clear hwz
            go_quiet ((go_at_call 57; exact Calls.quiet_of_same (lessU_any _ _ _)))
            go_wp2_with fail
            refine bodyPost_ret (results_none rfl _ _ _) rfl ?_
            exact ⟨rfl, by rw [← HEQ.out, HNX.out]; exact HUZ.out.draws _⟩
      · have hc2z : ¬ (k : Int) + 1 < (hi : Int) := by omega
        have hc2b : decide ((k : Int) + 1 < (hi : Int)) = false := by simp; omega
        have wk1 : IntKind.i64.wrap ((k : Int) + 1) = (k : Int) + 1 := by rw [IntKind.wrap_i64]; omega
        have hone := sift_one (hi := hi) (f := f) (r := r) (ch := k) (d := e) (by omega) (.inr ⟨hk, fun hh => hc2 (by omega)⟩)
        rw [← hpr, show f + k = pk by omega] at hone
        have HON : Hid _ := hone
        clear hone
        by_cases hl : e[pr]! < e[pk]!
        · have HSW : Hid (∀ q, URow w (((wr.drewN q).setCell ⟨g, pr, none⟩ (.int .u64 e[pk]!)).setCell ⟨g, pk, none⟩ (.int .u64 e[pr]!)) g c (swp e pr pk)) := fun q => (HUR.out.draws q).swap (by have := HES.out; omega) (by have := HES.out; omega)
          have HNX : Hid (siftDown ltInt hi f r e = siftDown ltInt hi f k (swp e pr pk)) := by show _ = _; rw [HON.out, if_pos hl]
          have hrc : r < k := by omega
          have hcd : k ≤ d.size := by omega
          generalize e[pr]! = xr at cr hl HSW
          generalize e[pk]! = xk at ck hl HSW
          clear hk hpr hpk hes hur HON
          go_wp2_with fail
          go_quiet (fail)
          go_wp2_with fail
          generalize hwz : wr.drewN nq = wz
          have cr' : wz.cell? ⟨g, pr, none⟩ = some (.int .u64 xr) := by rw [← hwz]; exact cr
          have cc' : wz.cell? ⟨g, pk, none⟩ = some (.int .u64 xk) := by rw [← hwz]; exact ck
          have fr' : wz.frozen? ⟨g, pr, none⟩ = false := by rw [← hwz]; exact fr
          have fc' : wz.frozen? ⟨g, pk, none⟩ = false := by rw [← hwz]; exact fk
          have HSZ : Hid (∀ q, URow w (((wz.drewN q).setCell ⟨g, pr, none⟩ (.int .u64 xk)).setCell ⟨g, pk, none⟩ (.int .u64 xr)) g c (swp e pr pk)) := fun q => by rw [← hwz, draws_add]; exact HSW.out _
          clear hwz
          go_quiet ((go_at_call 57; exact Calls.quiet_of_same (lessU_any _ _ _)))
          go_wp2_with fail
          go_region
          all_goals
            go_wp2_with fail
            exact ⟨⟨k, swp e pr pk, hcd, by go_num, by rw [swp_size]; exact HES.out, by rw [← HNX.out]; exact HEQ.out, HSZ.out _⟩, by simp [intOf]; omega⟩
        · have HNX : Hid (siftDown ltInt hi f r e = e) := by show _ = _; rw [HON.out, if_neg hl]
          generalize e[pr]! = xr at cr hl
          generalize e[pk]! = xk at ck hl
          have hlb : decide (xr < xk) = false := by simpa using hl
          clear hl
          clear hk hpr hpk hes hur HON
          go_wp2_with fail
          go_quiet (fail)
          go_wp2_with fail
          generalize hwz : wr.drewN nq = wz
          have cr' : wz.cell? ⟨g, pr, none⟩ = some (.int .u64 xr) := by rw [← hwz]; exact cr
          have cc' : wz.cell? ⟨g, pk, none⟩ = some (.int .u64 xk) := by rw [← hwz]; exact ck
          have fr' : wz.frozen? ⟨g, pr, none⟩ = false := by rw [← hwz]; exact fr
          have fc' : wz.frozen? ⟨g, pk, none⟩ = false := by rw [← hwz]; exact fk
          have HUZ : Hid (URow w wz g c e) := by rw [← hwz]; exact HUR.out.draws _
          clear hwz
          go_quiet ((go_at_call 57; exact Calls.quiet_of_same (lessU_any _ _ _)))
          go_wp2_with fail
          refine bodyPost_ret (results_none rfl _ _ _) rfl ?_
          exact ⟨rfl, by rw [← HEQ.out, HNX.out]; exact HUZ.out.draws _⟩
end Go.Proofs.Ytcfmcakdgamdmaa
