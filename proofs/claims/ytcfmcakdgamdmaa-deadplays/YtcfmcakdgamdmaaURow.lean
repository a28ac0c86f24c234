/- A row of numbers that the sort writes; insertionSort. -/
import Derived.Test.YtcfmcakdgamdmaaFreeW
import Derived.Sort.AssemblyPlain
namespace Go.Proofs.Ytcfmcakdgamdmaa
open Go.RowKit Go.Sort

/-- The row holds d; nothing else that was there has changed. -/
structure URow (w0 w : World) (g c : Nat) (d : Array Int) : Prop where
  is : ∃ cur : Array Value, w.heap[g]? = some (.cells cur 32 (0, 0)) ∧ cur.size = c ∧ ∀ j, j < d.size → cur[j]? = some (.int .u64 d[j]!)
  len : d.size ≤ c
  kept : Kept (fun i => i = g) w0 w
theorem URow.cell {w0 w : World} {g c j : Nat} {d : Array Int} (h : URow w0 w g c d) (hj : j < d.size) : w.cell? ⟨g, j, none⟩ = some (.int .u64 d[j]!) := by
  obtain ⟨cur, h1, _, h3⟩ := h.is
  rw [row_cell h1, h3 j hj]
theorem URow.frozen {w0 w : World} {g c : Nat} {d : Array Int} (h : URow w0 w g c d) (j : Nat) : w.frozen? ⟨g, j, none⟩ = false := by
  obtain ⟨cur, h1, _⟩ := h.is
  exact row_frozen h1 j
theorem URow.lt {w0 w : World} {g c : Nat} {d : Array Int} (h : URow w0 w g c d) : g < w.heap.size := by
  obtain ⟨cur, h1, _⟩ := h.is
  exact (Array.getElem?_eq_some_iff.1 h1).1
theorem URow.below {w0 w w' : World} {g c : Nat} {d : Array Int} (h : URow w0 w g c d) (hb : Below w.heap.size w w') : URow w0 w' g c d := by
  obtain ⟨cur, h1, h2⟩ := h.is
  exact ⟨⟨cur, by rw [hb.block g h.lt]; exact h1, h2⟩, h.len, h.kept.trans (Kept.of_below (S := fun i => i = g) hb) (fun _ _ h => h)⟩
theorem URow.draws {w0 w : World} {g c : Nat} {d : Array Int} (h : URow w0 w g c d) (q : Nat) : URow w0 (w.drewN q) g c d := h.below (below_draws (Below.refl _ _) q)
theorem URow.drew {w0 w : World} {g c : Nat} {d : Array Int} (h : URow w0 w g c d) : URow w0 w.drew g c d := h.below (below_drew (Below.refl _ _))
theorem URow.start {w : World} {g c : Nat} {d : Array Int} {w0 : World} (h : URow w0 w g c d) : URow w w g c d := ⟨h.is, h.len, Kept.refl _ _⟩
theorem URow.trans {w0 w w' : World} {g c : Nat} {d d' : Array Int} (h : URow w0 w g c d) (k : URow w w' g c d') : URow w0 w' g c d' := ⟨k.is, k.len, h.kept.trans k.kept (fun _ _ h => h)⟩
theorem URow.swap {w0 w : World} {g c i j : Nat} {d : Array Int} (h : URow w0 w g c d) (hi : i < d.size) (hj : j < d.size) : URow w0 ((w.setCell ⟨g, i, none⟩ (.int .u64 d[j]!)).setCell ⟨g, j, none⟩ (.int .u64 d[i]!)) g c (swp d i j) := by
  obtain ⟨cur, h1, h2, h3⟩ := h.is
  have hl := h.len
  refine ⟨⟨(cur.setIfInBounds i (.int .u64 d[j]!)).setIfInBounds j (.int .u64 d[i]!), heap_set_same _ (heap_set_same _ h1), by simp [h2], fun k hk => ?_⟩, by rw [swp_size]; exact hl, (h.kept.trans (setCell_kept _) (fun _ _ h => h)).trans (setCell_kept _) (fun _ _ h => h)⟩
  rw [swp_size] at hk
  have hkc : k < cur.size := by omega
  rw [swp_get d hi hj, Array.getElem?_setIfInBounds, Array.getElem?_setIfInBounds]
  by_cases e1 : k = j
  · subst e1; simp [hkc]
  · rw [if_neg (by omega), if_neg e1]
    by_cases e2 : k = i
    · subst e2; simp [hkc]
    · rw [if_neg (by omega), if_neg e2]
      exact h3 k hk
/-- What a part of the sort leaves. -/
structure SwapPost (w : World) (g c : Nat) (d' : Array Int) (e : Ending) (w' : World) : Prop where
  is : e = .returned (.tuple #[]) ∧ URow w w' g c d'
theorem ins_step {a j : Nat} {d : Array Int} (hj : a < j + 1) (hl : d[j + 1]! < d[j]!) : insInner ltInt a (j + 1) d = insInner ltInt a j (swp d (j + 1) j) := by
  rw [insInner]
  rw [if_pos (by simp [ltInt, hj, hl])]
theorem ins_stop {a j : Nat} {d : Array Int} (h : ¬ a < j ∨ (0 < j ∧ ¬ d[j]! < d[j - 1]!)) : insInner ltInt a j d = d := by
  cases j with
  | zero => rfl
  | succ j =>
    rw [insInner, if_neg]
    simp [ltInt]
    intro ha
    rcases h with h | h
    · omega
    · simpa using h.2
theorem insInner_size (a j : Nat) (d : Array Int) : (insInner ltInt a j d).size = d.size := by
  induction j generalizing d with
  | zero => rfl
  | succ j ih =>
    rw [insInner]
    split
    · rw [ih, swp_size]
    · rfl
set_option maxHeartbeats 3200000 in
set_option maxRecDepth 100000 in
theorem insertion_any {w : World} {g c cc a b : Nat} {d : Array Int} (h : URow w w g c d) (hab : a ≤ b) (hb : b ≤ d.size) (hs : d.size ≤ 140737488355328) :
    Calls Try.prog 51 #[.slice (some ⟨g, 0, none⟩) d.size cc, .int .i64 (a : Int), .int .i64 (b : Int)] w fun e w' => SwapPost w g c (insertionSort ltInt d a b) e w' := by
  have HU : Hid _ := h
  clear h
  go_enter Try.func51, Try.ntmps51
  go_wp2_with fail
  go_loopw [6, 7] (fun vi _ wx => ∃ (i : Nat) (e : Array Int), a + 1 ≤ i ∧ i ≤ b + 1 ∧ vi = .int .i64 i ∧ e.size = d.size ∧ insOuter ltInt a b i e = insertionSort ltInt d a b ∧ URow w wx g c e) (fun vi _ _ => b + 1 - (intOf vi).toNat)
  case atStart => exact ⟨a + 1, d, Nat.le_refl _, by omega, rfl, rfl, rfl, HU.out⟩
  case round =>
    obtain ⟨i, e, hai, hib, rfl, hes, heq, hur⟩ := hrel
    have HEQ : Hid _ := heq
    have HES : Hid _ := hes
    have HUR : Hid _ := hur
    clear heq hes hur
    by_cases hlt : i < b
    · have hltz : (i : Int) < (b : Int) := by omega
      have HO : Hid (insOuter ltInt a b i e = insOuter ltInt a b (i + 1) (insInner ltInt a i e)) := by
        show _ = _
        conv => lhs; rw [insOuter]
        rw [if_pos hlt]
      go_wp2_with fail
      obtain ⟨wa, hwa⟩ : ∃ wa, wa = wr := ⟨_, rfl⟩
      go_loopw [7] (fun vj wy => ∃ (j : Nat) (f : Array Int), a ≤ j ∧ j ≤ i ∧ vj = .int .i64 j ∧ f.size = d.size ∧ insInner ltInt a j f = insInner ltInt a i e ∧ URow w wy g c f) (fun vj _ => (intOf vj).toNat)
      case atStart => exact ⟨i, e, by omega, Nat.le_refl _, rfl, HES.out, rfl, HUR.out⟩
      case round =>
        obtain ⟨j, f, haj, hji, rfl, hfs, hfeq, huf⟩ := hrel
        have HFE : Hid _ := hfeq
        have HFS : Hid _ := hfs
        have HUF : Hid _ := huf
        by_cases hja : a < j
        · have hjaz : (a : Int) < (j : Int) := by omega
          have hjn : (j : Int) < (d.size : Int) := by omega
          have hj1 : (0 : Int) ≤ (j : Int) - 1 := by omega
          have hj2 : (j : Int) - 1 < (d.size : Int) := by omega
          have c0 := huf.cell (show j < f.size by omega)
          have c1 := huf.cell (show j - 1 < f.size by omega)
          have z0 := huf.frozen j
          have z1 := huf.frozen (j - 1)
          have hjt : ((j : Int) - 1).toNat = j - 1 := by omega
          have hjw : IntKind.i64.wrap ((j : Int) - 1) = (j : Int) - 1 := by rw [IntKind.wrap_i64]; omega
          clear hfeq hfs huf
          by_cases hl : f[j]! < f[j - 1]!
          · have HST : Hid (insInner ltInt a j f = insInner ltInt a (j - 1) (swp f j (j - 1))) := by
              obtain ⟨m, rfl⟩ : ∃ m, j = m + 1 := ⟨j - 1, by omega⟩
              exact ins_step hja (by simpa using hl)
            have HSW : Hid (∀ q, URow w (((wr.drewN q).setCell ⟨g, j, none⟩ (.int .u64 f[j - 1]!)).setCell ⟨g, j - 1, none⟩ (.int .u64 f[j]!)) g c (swp f j (j - 1))) := fun q => (HUF.out.draws q).swap (by have := HFS.out; omega) (by have := HFS.out; omega)
            generalize f[j]! = x at c0 hl HSW
            generalize f[j - 1]! = y at c1 hl HSW
            go_wp2_with fail
            go_quiet ((go_at_call 57; exact Calls.quiet_of_same (lessU_any _ _ _)))
            go_wp2_with fail
            go_region
            all_goals
              go_wp2_with fail
              refine ⟨⟨j - 1, swp f j (j - 1), by omega, by omega, by go_num, by rw [swp_size]; exact HFS.out, by rw [← HST.out]; exact HFE.out, ?_⟩, by simp [intOf]; omega⟩
              exact HSW.out _
          · have HST : Hid (insInner ltInt a j f = f) := ins_stop (.inr ⟨by omega, hl⟩)
            generalize f[j]! = x at c0 hl
            generalize f[j - 1]! = y at c1 hl
            go_wp2_with fail
            go_quiet ((go_at_call 57; exact Calls.quiet_of_same (lessU_any _ _ _)))
            go_wp2_with fail
            refine ⟨⟨i + 1, f, by omega, by omega, by go_num, HFS.out, ?_, HUF.out.draws _⟩, by simp [intOf]; omega⟩
            rw [← HEQ.out, HO.out, ← HFE.out, HST.out]
        · have hjaz : ¬ (a : Int) < (j : Int) := by omega
          have HST : Hid (insInner ltInt a j f = f) := ins_stop (.inl hja)
          clear hfeq hfs huf
          go_wp2_with fail
          go_quiet (fail)
          go_wp2_with fail
          refine ⟨⟨i + 1, f, by omega, by omega, by go_num, HFS.out, ?_, HUF.out.draws _⟩, by simp [intOf]; omega⟩
          rw [← HEQ.out, HO.out, ← HFE.out, HST.out]
    · have hltz : ¬ (i : Int) < (b : Int) := by omega
      have HO : Hid (insOuter ltInt a b i e = e) := by
        show _ = _
        rw [insOuter, if_neg hlt]
      go_wp2_with fail
      go_end0
      exact ⟨rfl, by rw [← HEQ.out, HO.out]; exact HUR.out⟩
end Go.Proofs.Ytcfmcakdgamdmaa
