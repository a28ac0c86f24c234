/- heapSort, reverseRange. -/
import Derived.Test.YtcfmcakdgamdmaaHeap
namespace Go.Proofs.Ytcfmcakdgamdmaa
open Go.RowKit Go.Sort

theorem SwapPost.row {w w' : World} {g c : Nat} {d : Array Int} {e : Ending} (h : SwapPost w g c d e w') : e = .returned (.tuple #[]) ∧ Hid (URow w w' g c d) := h.is
theorem heapBuild_size (hi f k : Nat) (d : Array Int) : (heapBuild ltInt hi f k d).size = d.size := by
  induction k generalizing d with
  | zero => rfl
  | succ k ih => rw [heapBuild, ih, sift_size]
theorem heapPop_size (f k : Nat) (d : Array Int) : (heapPop ltInt f k d).size = d.size := by
  induction k generalizing d with
  | zero => rfl
  | succ k ih => rw [heapPop, ih, sift_size, swp_size]
set_option maxHeartbeats 3200000 in
set_option maxRecDepth 100000 in
theorem heap_any {w : World} {g c cc a b : Nat} {d : Array Int} (h : URow w w g c d) (hab : a < b) (hb : b ≤ d.size) (hs : d.size ≤ 140737488355328) :
    Calls Try.prog 52 #[.slice (some ⟨g, 0, none⟩) d.size cc, .int .i64 (a : Int), .int .i64 (b : Int)] w fun e w' => SwapPost w g c (heapSort ltInt d a b) e w' := by
  have HU : Hid _ := h
  clear h
  obtain ⟨hi, hhi⟩ : ∃ hi, hi = b - a := ⟨_, rfl⟩
  have hhz : (b : Int) - (a : Int) = (hi : Int) := by omega
  obtain ⟨m0, hm0⟩ : ∃ m0, m0 = (hi - 1) / 2 := ⟨_, rfl⟩
  have HM0 : Hid (((hi : Int) - 1) / 2 = (m0 : Int)) := by show _ = _; omega
  have h1z : (0 : Int) ≤ (hi : Int) - 1 := by omega
  have HHS : Hid (heapSort ltInt d a b = heapPop ltInt a hi (heapBuild ltInt hi a (m0 + 1) d)) := by show _ = _; unfold heapSort; rw [← hhi, ← hm0]
  have hah : a + hi ≤ d.size := by omega
  have hm0d : m0 + 1 ≤ hi := by omega
  clear hhi hm0
  go_enter Try.func52, Try.ntmps52
  go_wp2_with fail
  go_loopw [9] (fun vi wx => ∃ (k : Nat) (z : Int) (e : Array Int), z = (k : Int) - 1 ∧ k ≤ m0 + 1 ∧ vi = .int .i64 z ∧ e.size = d.size ∧ heapBuild ltInt hi a k e = heapBuild ltInt hi a (m0 + 1) d ∧ URow w wx g c e) (fun vi _ => (intOf vi + 1).toNat)
  case atStart => exact ⟨m0 + 1, ((hi : Int) - 1) / 2, d, by rw [HM0.out]; omega, Nat.le_refl _, rfl, rfl, rfl, HU.out⟩
  case round =>
    obtain ⟨k, z, e, hz, hk, rfl, hes, heq, hur⟩ := hrel
    have HEQ : Hid _ := heq
    have HES : Hid _ := hes
    have HUR : Hid _ := hur
    by_cases hk0 : 0 < k
    · obtain ⟨m, rfl⟩ : ∃ m, k = m + 1 := ⟨k - 1, by omega⟩
      obtain rfl : z = (m : Int) := by omega
      have HSI := sift_any (cc := cc) (lo := m) (hi := hi) (f := a) hur.start (by omega) (by omega) (by omega)
      rw [hes] at HSI
      have HSZ : Hid ((siftDown ltInt hi a m e).size = d.size) := by show _ = _; rw [sift_size]; exact hes
      clear heq hes hur hz
      go_wp2_with fail
      refine HSI.mono ?_
      rintro r w2 ⟨rfl, h2⟩
      have H2 : Hid _ := h2
      clear h2 HSI
      go_wp2_with fail
      exact ⟨⟨m, (m : Int) - 1, siftDown ltInt hi a m e, rfl, by omega, rfl, HSZ.out, by rw [← HEQ.out, heapBuild], HUR.out.trans H2.out⟩, by simp [intOf]⟩
    · obtain rfl : k = 0 := by omega
      obtain rfl : z = -1 := by omega
      have HE0 : Hid (e = heapBuild ltInt hi a (m0 + 1) d) := heq
      clear heq hes hur hz
      go_wp2_with fail
      go_loopw [10] (fun vi wx => ∃ (k : Nat) (z : Int) (f : Array Int), z = (k : Int) - 1 ∧ k ≤ hi ∧ vi = .int .i64 z ∧ f.size = d.size ∧ heapPop ltInt a k f = heapPop ltInt a hi e ∧ URow w wx g c f) (fun vi _ => (intOf vi + 1).toNat)
      case atStart => exact ⟨hi, (hi : Int) - 1, e, rfl, Nat.le_refl _, rfl, HES.out, rfl, HUR.out⟩
      case round =>
        obtain ⟨k, z, f, hz, hk, rfl, hfs, hfe, huf⟩ := hrel
        have HFE : Hid _ := hfe
        have HFS : Hid _ := hfs
        have HUF : Hid _ := huf
        by_cases hk0 : 0 < k
        · obtain ⟨m, rfl⟩ : ∃ m, k = m + 1 := ⟨k - 1, by omega⟩
          obtain rfl : z = (m : Int) := by omega
          obtain ⟨pm, hpm⟩ : ∃ pm, pm = a + m := ⟨_, rfl⟩
          have hpmz : (a : Int) + (m : Int) = (pm : Int) := by omega
          have hpmn : (pm : Int) < (d.size : Int) := by omega
          have han : (a : Int) < (d.size : Int) := by omega
          have wpm : IntKind.i64.wrap (pm : Int) = (pm : Int) := by rw [IntKind.wrap_i64]; omega
          have ca := huf.cell (show a < f.size by omega)
          have cm := huf.cell (show pm < f.size by omega)
          have fa := huf.frozen a
          have fm := huf.frozen pm
          have HSW : Hid (∀ q, URow w (((wr.drewN q).setCell ⟨g, a, none⟩ (.int .u64 f[pm]!)).setCell ⟨g, pm, none⟩ (.int .u64 f[a]!)) g c (swp f a pm)) := fun q => (HUF.out.draws q).swap (by have := HFS.out; omega) (by have := HFS.out; omega)
          have HSX : Hid (∀ (W : World), URow w W g c (swp f a pm) → Calls Try.prog 66 #[.slice (some ⟨g, 0, none⟩) d.size cc, .int .i64 0, .int .i64 (m : Int), .int .i64 (a : Int)] W fun e w' => SwapPost W g c (siftDown ltInt m a 0 (swp f a pm)) e w') := fun W hW => by
            have h1 := sift_any (cc := cc) (lo := 0) (hi := m) (f := a) hW.start (by rw [swp_size]; have := HFS.out; omega) (Nat.zero_le _) (by rw [swp_size]; have := HFS.out; omega)
            rw [swp_size, HFS.out] at h1
            exact h1
          have HNE : Hid (heapPop ltInt a (m + 1) f = heapPop ltInt a m (siftDown ltInt m a 0 (swp f a pm))) := by show _ = _; rw [heapPop, hpm]
          have HNS : Hid ((siftDown ltInt m a 0 (swp f a pm)).size = d.size) := by show _ = _; rw [sift_size, swp_size]; exact HFS.out
          clear hfe hfs huf hpm hz
          by_cases hma : pm = a
          · subst hma
            generalize f[pm]! = xm at cm ca HSW
            go_wp2_with fail
            go_region
            all_goals
              go_wp2_with fail
              refine (HSX.out _ (HSW.out _)).mono ?_
              rintro r w2 ⟨rfl, h2⟩
              have H2 : Hid _ := h2
              clear h2
              go_wp2_with fail
              exact ⟨⟨m, (m : Int) - 1, _, rfl, by omega, rfl, HNS.out, by rw [← HFE.out, HNE.out], (HSW.out _).trans H2.out⟩, by simp [intOf]⟩
          · have hma2 : ¬ a = pm := fun h => hma h.symm
            generalize f[a]! = xa at ca HSW
            generalize f[pm]! = xm at cm HSW
            go_wp2_with fail
            go_region
            all_goals
              go_wp2_with fail
              refine (HSX.out _ (HSW.out _)).mono ?_
              rintro r w2 ⟨rfl, h2⟩
              have H2 : Hid _ := h2
              clear h2
              go_wp2_with fail
              exact ⟨⟨m, (m : Int) - 1, _, rfl, by omega, rfl, HNS.out, by rw [← HFE.out, HNE.out], (HSW.out _).trans H2.out⟩, by simp [intOf]⟩
        · obtain rfl : k = 0 := by omega
          obtain rfl : z = -1 := by omega
          have HF0 : Hid (f = heapPop ltInt a hi e) := hfe
          clear hfe hfs huf hz
          go_wp2_with fail
          go_end0
          exact ⟨rfl, by rw [HHS.out, ← HE0.out, ← HF0.out]; exact HUF.out⟩
set_option maxHeartbeats 3200000 in
set_option maxRecDepth 100000 in
theorem reverse_any {w : World} {g c cc a b : Nat} {d : Array Int} (h : URow w w g c d) (hab : a < b) (hb : b ≤ d.size) (hs : d.size ≤ 140737488355328) :
    Calls Try.prog 55 #[.slice (some ⟨g, 0, none⟩) d.size cc, .int .i64 (a : Int), .int .i64 (b : Int)] w fun e w' => SwapPost w g c (reverseRange d a b) e w' := by
  have HU : Hid _ := h
  clear h
  have HRR : Hid (reverseRange d a b = reverseLoop a (b - 1) d) := rfl
  go_enter Try.func55, Try.ntmps55
  go_wp2_with fail
  go_loopw [6, 7] (fun vi vj wx => ∃ (i j : Nat) (z : Int) (e : Array Int), z = (j : Int) ∧ a ≤ i ∧ j < b ∧ vi = .int .i64 i ∧ vj = .int .i64 z ∧ e.size = d.size ∧ reverseLoop i j e = reverseLoop a (b - 1) d ∧ URow w wx g c e) (fun vi vj _ => (intOf vj - intOf vi + 1).toNat)
  case atStart => exact ⟨a, b - 1, (b : Int) - 1, d, by omega, Nat.le_refl _, by omega, rfl, rfl, rfl, rfl, HU.out⟩
  case round =>
    obtain ⟨i, j, z, e, hz, hai, hjb, rfl, rfl, hes, heq, hur⟩ := hrel
    subst hz
    have HEQ : Hid _ := heq
    have HES : Hid _ := hes
    have HUR : Hid _ := hur
    by_cases hlt : i < j
    · have hltz : (i : Int) < (j : Int) := by omega
      have hin : (i : Int) < (d.size : Int) := by omega
      have hjn : (j : Int) < (d.size : Int) := by omega
      have ci := hur.cell (show i < e.size by omega)
      have cj := hur.cell (show j < e.size by omega)
      have fi := hur.frozen i
      have fj := hur.frozen j
      have HSW : Hid (∀ q, URow w (((wr.drewN q).setCell ⟨g, i, none⟩ (.int .u64 e[j]!)).setCell ⟨g, j, none⟩ (.int .u64 e[i]!)) g c (swp e i j)) := fun q => (HUR.out.draws q).swap (by have := HES.out; omega) (by have := HES.out; omega)
      have HNE : Hid (reverseLoop i j e = reverseLoop (i + 1) (j - 1) (swp e i j)) := by
        show _ = _
        conv => lhs; rw [reverseLoop]
        rw [if_pos hlt]
      generalize e[i]! = xi at ci HSW
      generalize e[j]! = xj at cj HSW
      clear heq hes hur
      go_wp2_with fail
      go_region
      all_goals
        go_wp2_with fail
        exact ⟨⟨i + 1, j - 1, (j : Int) - 1, swp e i j, by omega, by omega, by omega, by go_num, rfl, by rw [swp_size]; exact HES.out, by rw [← HEQ.out, HNE.out], HSW.out _⟩, by simp [intOf]; omega⟩
    · have hltz : ¬ (i : Int) < (j : Int) := by omega
      have HNE : Hid (reverseLoop i j e = e) := by
        show _ = _
        rw [reverseLoop, if_neg hlt]
      clear heq hes hur
      go_wp2_with fail
      go_end0
      exact ⟨rfl, by rw [HRR.out, ← HEQ.out, HNE.out]; exact HUR.out⟩
end Go.Proofs.Ytcfmcakdgamdmaa
