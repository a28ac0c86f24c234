/- partialInsertionSort. -/
import Derived.Test.YtcfmcakdgamdmaaBreak
import Derived.Deep.CutBlock
namespace Go.Proofs.Ytcfmcakdgamdmaa
open Go.RowKit Go.Sort
theorem sc_go {d : Array Int} {b i : Nat} (h : i < b) (hl : ¬ d[i]! < d[i - 1]!) : scanSorted ltInt d b i = scanSorted ltInt d b (i + 1) := by
  rw [scanSorted, if_pos]
  simp [ltInt, h]
  omega
theorem sc_stop {d : Array Int} {b i : Nat} (h : ¬ i < b ∨ d[i]! < d[i - 1]!) : scanSorted ltInt d b i = i := by
  rw [scanSorted, if_neg]
  simp [ltInt]
  omega
theorem sc_bound (d : Array Int) (b : Nat) : ∀ n i, b - i = n → i ≤ b → i ≤ scanSorted ltInt d b i ∧ scanSorted ltInt d b i ≤ b
  | 0, i, h, hi => by rw [sc_stop (.inl (by omega))]; omega
  | n + 1, i, h, hi => by
    by_cases hl : d[i]! < d[i - 1]!
    · rw [sc_stop (.inr hl)]; omega
    · rw [sc_go (by omega) hl]
      have := sc_bound d b n (i + 1) (by omega) (by omega)
      omega
theorem sd_go {j : Nat} {d : Array Int} (hj : 1 ≤ j) (hl : d[j]! < d[j - 1]!) : shiftDown ltInt j d = shiftDown ltInt (j - 1) (swp d j (j - 1)) := by
  obtain ⟨k, rfl⟩ : ∃ k, j = k + 1 := ⟨j - 1, by omega⟩
  simp only [Nat.add_sub_cancel] at hl ⊢
  rw [shiftDown, if_neg]
  simp [ltInt]
  omega
theorem sd_stop {j : Nat} {d : Array Int} (h : ¬ 1 ≤ j ∨ ¬ d[j]! < d[j - 1]!) : shiftDown ltInt j d = d := by
  cases j with
  | zero => rfl
  | succ k =>
    simp only [Nat.add_sub_cancel] at h
    rw [shiftDown, if_pos]
    simp [ltInt]
    omega
theorem su_go {b j : Nat} {d : Array Int} (hj : j < b) (hl : d[j]! < d[j - 1]!) : shiftUp ltInt b j d = shiftUp ltInt b (j + 1) (swp d j (j - 1)) := by
  rw [shiftUp, if_pos hj, if_neg]
  simp [ltInt]
  omega
theorem su_stop {b j : Nat} {d : Array Int} (h : ¬ j < b ∨ ¬ d[j]! < d[j - 1]!) : shiftUp ltInt b j d = d := by
  rw [shiftUp]
  by_cases hj : j < b
  · rw [if_pos hj, if_pos]
    simp [ltInt]
    omega
  · rw [if_neg hj]
theorem pi_all {a b s i k : Nat} {d : Array Int} (hs : s < 5) (hk : k = scanSorted ltInt d b i) : partialIns ltInt a b (5 - s) i d = if k = b then (d, true) else if b - a < 50 then (d, false) else partialIns ltInt a b (5 - (s + 1)) k (fixUp ltInt b k (fixDown ltInt a k (swp d k (k - 1)))) := by
  rw [show 5 - s = (4 - s) + 1 by omega, partialIns_succ, ← hk, show 5 - (s + 1) = 4 - s by omega]
theorem sd_size (j : Nat) : ∀ d : Array Int, (shiftDown ltInt j d).size = d.size := by
  induction j with
  | zero => intro d; rfl
  | succ j ih =>
    intro d
    rw [shiftDown]
    split
    · rfl
    · rw [ih, swp_size]
theorem su_size (b : Nat) : ∀ n j (d : Array Int), b - j = n → (shiftUp ltInt b j d).size = d.size
  | 0, j, d, h => by rw [su_stop (.inl (by omega))]
  | n + 1, j, d, h => by
    by_cases hl : d[j]! < d[j - 1]!
    · rw [su_go (by omega) hl, su_size b n (j + 1) _ (by omega), swp_size]
    · rw [su_stop (.inr hl)]
theorem fixDown_size (a k : Nat) (d : Array Int) : (fixDown ltInt a k d).size = d.size := by
  unfold fixDown
  split
  · exact sd_size _ _
  · rfl
theorem fixUp_size (b k : Nat) (d : Array Int) : (fixUp ltInt b k d).size = d.size := by
  unfold fixUp
  split
  · exact su_size b _ _ _ rfl
  · rfl
structure PartInsPost (w : World) (g c : Nat) (R : Array Int × Bool) (e : Ending) (w' : World) : Prop where
  is : e = .returned (.bool R.2) ∧ URow w w' g c R.1
set_option maxHeartbeats 6400000 in
set_option maxRecDepth 100000 in
theorem partIns_any {w : World} {g c cc a b : Nat} {d : Array Int} (h : URow w w g c d) (hab : a < b) (hb : b ≤ d.size) (hs : d.size ≤ 140737488355328) :
    Calls Try.prog 56 #[.slice (some ⟨g, 0, none⟩) d.size cc, .int .i64 (a : Int), .int .i64 (b : Int)] w fun e w' => PartInsPost w g c (partialInsertionSort ltInt d a b) e w' := by
  have HR : ∃ R, R = partialInsertionSort ltInt d a b := ⟨_, rfl⟩
  obtain ⟨R, hR⟩ := HR
  have HR0 : Hid (partialIns ltInt a b (5 - 0) (a + 1) d = R) := by rw [hR]; exact rfl
  rw [← hR]
  have HU : Hid _ := h
  clear h hR
  go_enter Try.func56, Try.ntmps56
  go_wp2_with fail
  go_loopw [7, 8] (fun vi vs wx => ∃ (i s : Nat) (e : Array Int), vi = .int .i64 i ∧ vs = .int .i64 s ∧ s ≤ 5 ∧ a < i ∧ i ≤ b ∧ e.size = d.size ∧ partialIns ltInt a b (5 - s) i e = R ∧ URow w wx g c e) (fun _ vs _ => 5 - (intOf vs).toNat)
  case atStart => exact ⟨a + 1, 0, d, by go_num, rfl, by omega, by omega, by omega, rfl, HR0.out, HU.out⟩
  case round =>
    obtain ⟨i, s, e, rfl, rfl, hs5, hai, hib, hes, heq, hur⟩ := hrel
    have HES : Hid _ := hes
    have HEQ : Hid _ := heq
    have HUR : Hid _ := hur
    clear hes heq hur
    by_cases hlt : s < 5
    · have hltz : (s : Int) < 5 := by omega
      obtain ⟨k, hk⟩ : ∃ k, k = scanSorted ltInt e b i := ⟨_, rfl⟩
      obtain ⟨hik, hkb⟩ := sc_bound e b _ i rfl hib
      rw [← hk] at hik hkb
      have HPI : Hid _ := pi_all (a := a) hlt hk
      have HK : Hid _ := hk
      clear hk
      go_upto_block 2 with fail
      go_cut [7] (fun vi wx => vi = .int .i64 (k : Int) ∧ URow w wx g c e)
      case first =>
        go_wp2_with fail
        go_loopw [7] (fun vi wx => ∃ x : Nat, i ≤ x ∧ x ≤ b ∧ vi = .int .i64 x ∧ scanSorted ltInt e b x = k ∧ URow w wx g c e) (fun vi _ => b - (intOf vi).toNat)
        case atStart => exact ⟨i, Nat.le_refl _, hib, rfl, HK.out.symm, HUR.out⟩
        case round =>
          obtain ⟨x, hix, hxb, rfl, hsc, hu⟩ := hrel
          have HSC : Hid _ := hsc
          have HUX : Hid _ := hu
          clear hsc hu
          by_cases hx : x < b
          · have hxz : (x : Int) < (b : Int) := by omega
            have hjn : (x : Int) < (d.size : Int) := by omega
            have hj1 : (0 : Int) ≤ (x : Int) - 1 := by omega
            have hj2 : (x : Int) - 1 < (d.size : Int) := by omega
            have c0 := HUX.out.cell (show x < e.size by have := HES.out; omega)
            have c1 := HUX.out.cell (show x - 1 < e.size by have := HES.out; omega)
            have z0 := HUX.out.frozen x
            have z1 := HUX.out.frozen (x - 1)
            have hjt : ((x : Int) - 1).toNat = x - 1 := by omega
            have hjw : IntKind.i64.wrap ((x : Int) - 1) = (x : Int) - 1 := by rw [IntKind.wrap_i64]; omega
            by_cases hl : e[x]! < e[x - 1]!
            · have HST : Hid (x = k) := by show _ = _; rw [← HSC.out, sc_stop (.inr hl)]
              generalize e[x]! = y at c0 hl
              generalize e[x - 1]! = z at c1 hl
              have hlb : decide (y < z) = true := by simpa using hl
              clear hl
              go_wp2_with fail
              go_quiet ((go_at_call 57; exact Calls.quiet_of_same (lessU_any _ _ _)))
              go_wp2_with fail
              go_meet
              exact ⟨by rw [HST.out], HUX.out.draws _⟩
            · have HST : Hid (scanSorted ltInt e b (x + 1) = k) := by show _ = _; rw [← HSC.out, sc_go hx hl]
              generalize e[x]! = y at c0 hl
              generalize e[x - 1]! = z at c1 hl
              have hlb : decide (y < z) = false := by simpa using hl
              clear hl
              go_wp2_with fail
              go_quiet ((go_at_call 57; exact Calls.quiet_of_same (lessU_any _ _ _)))
              go_wp2_with fail
              exact ⟨⟨x + 1, by omega, by omega, by go_num, HST.out, HUX.out.draws _⟩, by simp [intOf]; omega⟩
          · have hxz : ¬ (x : Int) < (b : Int) := by omega
            have HST : Hid (x = k) := by show _ = _; rw [← HSC.out, sc_stop (.inl hx)]
            go_wp2_with fail
            go_quiet (fail)
            go_wp2_with fail
            go_meet
            exact ⟨by rw [HST.out], HUX.out.draws _⟩
      case rest =>
        obtain ⟨rfl, hu⟩ := hcut
        have HU2 : Hid _ := hu
        clear hu
        by_cases hke : k = b
        · have hkez : (k : Int) = (b : Int) := by omega
          have hR : R = (e, true) := by rw [← HEQ.out, HPI.out, if_pos hke]
          subst hR
          go_wp2_with fail
          go_ret
          exact ⟨rfl, HU2.out⟩
        · have hkez : ¬ (k : Int) = (b : Int) := by omega
          by_cases h50 : b - a < 50
          · have h50z : (b : Int) - (a : Int) < 50 := by omega
            have hR : R = (e, false) := by rw [← HEQ.out, HPI.out, if_neg hke, if_pos h50]
            subst hR
            go_wp2_with fail
            go_ret
            exact ⟨rfl, HU2.out⟩
          · have h50z : ¬ (b : Int) - (a : Int) < 50 := by omega
            have HEQ0 : Hid (partialIns ltInt a b (5 - (s + 1)) k (fixUp ltInt b k (fixDown ltInt a k (swp e k (k - 1)))) = R) := by show _ = _; rw [← HEQ.out, HPI.out, if_neg hke, if_neg h50]
            clear HPI HK
            go_upto_region 11 with fail
            go_cut [] (fun wx => URow w wx g c (swp e k (k - 1)))
            case first =>
              have hjn : (k : Int) < (d.size : Int) := by omega
              have hj1 : (0 : Int) ≤ (k : Int) - 1 := by omega
              have hj2 : (k : Int) - 1 < (d.size : Int) := by omega
              have c0 := HU2.out.cell (show k < e.size by have := HES.out; omega)
              have c1 := HU2.out.cell (show k - 1 < e.size by have := HES.out; omega)
              have z0 := HU2.out.frozen k
              have z1 := HU2.out.frozen (k - 1)
              have hjt : ((k : Int) - 1).toNat = k - 1 := by omega
              have hjw : IntKind.i64.wrap ((k : Int) - 1) = (k : Int) - 1 := by rw [IntKind.wrap_i64]; omega
              have HSW : Hid (∀ q, URow w (((wc.drewN q).setCell ⟨g, k, none⟩ (.int .u64 e[k - 1]!)).setCell ⟨g, k - 1, none⟩ (.int .u64 e[k]!)) g c (swp e k (k - 1))) := fun q => (HU2.out.draws q).swap (by have := HES.out; omega) (by have := HES.out; omega)
              generalize e[k]! = x at c0 HSW
              generalize e[k - 1]! = y at c1 HSW
              go_region
              all_goals
                go_wp2_with fail
                go_meet
                exact HSW.out _
            case rest =>
              have HUS : Hid _ := hcut
              have HDS : Hid ((swp e k (k - 1)).size = d.size) := by show _ = _; rw [swp_size]; exact HES.out
              generalize swp e k (k - 1) = D at HUS HDS HEQ0
              clear hcut HU2
              go_upto_if 61 with fail
              obtain ⟨F, hF⟩ : ∃ F, F = fixDown ltInt a k D := ⟨_, rfl⟩
              have HFF : Hid (F = fixDown ltInt a k D) := hF
              clear hF
              go_cut [] (fun wx => URow w wx g c F)
              case first =>
                by_cases hfx : 2 ≤ k - a
                · have hfxz : (2 : Int) ≤ (k : Int) - (a : Int) := by omega
                  have HF : Hid (shiftDown ltInt (k - 1) D = F) := by show _ = _; rw [HFF.out]; unfold fixDown; rw [if_pos hfx]
                  go_wp2_with fail
                  go_loopw [9] (fun vj wy => ∃ (j : Nat) (f : Array Int), j ≤ k - 1 ∧ vj = .int .i64 j ∧ f.size = d.size ∧ shiftDown ltInt j f = F ∧ URow w wy g c f) (fun vj _ => (intOf vj).toNat)
                  case atStart => exact ⟨k - 1, D, Nat.le_refl _, by go_num, HDS.out, HF.out, HUS.out⟩
                  case round =>
                    obtain ⟨j, f, hj2, rfl, hfs, hfe, huf⟩ := hrel
                    have HFS : Hid _ := hfs
                    have HFE : Hid _ := hfe
                    have HUF : Hid _ := huf
                    clear hfs hfe huf
                    by_cases hjc : 1 ≤ j
                    · have hjcz : (1 : Int) ≤ (j : Int) := by omega
                      have hjn : (j : Int) < (d.size : Int) := by omega
                      have hq1 : (0 : Int) ≤ (j : Int) - 1 := by omega
                      have hq2 : (j : Int) - 1 < (d.size : Int) := by omega
                      have c0 := HUF.out.cell (show j < f.size by have := HFS.out; omega)
                      have c1 := HUF.out.cell (show j - 1 < f.size by have := HFS.out; omega)
                      have z0 := HUF.out.frozen j
                      have z1 := HUF.out.frozen (j - 1)
                      have hjt : ((j : Int) - 1).toNat = j - 1 := by omega
                      have hjw : IntKind.i64.wrap ((j : Int) - 1) = (j : Int) - 1 := by rw [IntKind.wrap_i64]; omega
                      by_cases hl : f[j]! < f[j - 1]!
                      · have HST : Hid (shiftDown ltInt (j - 1) (swp f j (j - 1)) = F) := by show _ = _; rw [← HFE.out, sd_go hjc hl]
                        have HSW : Hid (∀ q, URow w (((wr.drewN q).setCell ⟨g, j, none⟩ (.int .u64 f[j - 1]!)).setCell ⟨g, j - 1, none⟩ (.int .u64 f[j]!)) g c (swp f j (j - 1))) := fun q => (HUF.out.draws q).swap (by have := HFS.out; omega) (by have := HFS.out; omega)
                        generalize f[j]! = x at c0 hl HSW
                        generalize f[j - 1]! = y at c1 hl HSW
                        have hlb : decide (x < y) = true := by simpa using hl
                        clear hl
                        go_wp2_with fail
                        go_quiet ((go_at_call 57; exact Calls.quiet_of_same (lessU_any _ _ _)))
                        go_wp2_with fail
                        go_region
                        all_goals
                          go_wp2_with fail
                          exact ⟨⟨j - 1, swp f j (j - 1), by omega, by go_num, by rw [swp_size]; exact HFS.out, HST.out, HSW.out _⟩, by simp [intOf]; omega⟩
                      · have HST : Hid (f = F) := by show _ = _; rw [← HFE.out, sd_stop (.inr hl)]
                        generalize f[j]! = x at c0 hl
                        generalize f[j - 1]! = y at c1 hl
                        have hlb : decide (x < y) = false := by simpa using hl
                        clear hl
                        go_wp2_with fail
                        go_quiet ((go_at_call 57; exact Calls.quiet_of_same (lessU_any _ _ _)))
                        go_wp2_with fail
                        go_meet
                        exact HST.out ▸ HUF.out.draws _
                    · have hjcz : ¬ (1 : Int) ≤ (j : Int) := by omega
                      have HST : Hid (f = F) := by show _ = _; rw [← HFE.out, sd_stop (.inl hjc)]
                      go_wp2_with fail
                      go_meet
                      exact HST.out ▸ HUF.out
                · have hfxz : ¬ (2 : Int) ≤ (k : Int) - (a : Int) := by omega
                  have HF : Hid (D = F) := by show _ = _; rw [HFF.out]; unfold fixDown; rw [if_neg hfx]
                  go_wp2_with fail
                  go_meet
                  exact HF.out ▸ HUS.out
              case rest =>
                have HUS2 : Hid _ := hcut
                have HDS2 : Hid (F.size = d.size) := by show _ = _; rw [HFF.out, fixDown_size]; exact HDS.out
                clear hcut HUS HDS
                have HUS : Hid _ := HUS2.out
                have HDS : Hid _ := HDS2.out
                have HEQ1 : Hid (partialIns ltInt a b (5 - (s + 1)) k (fixUp ltInt b k F) = R) := by show _ = _; rw [HFF.out]; exact HEQ0.out
                clear HUS2 HDS2 HEQ0 HFF
                clear D
                generalize F = D at HUS HDS HEQ1
                obtain ⟨F, hF⟩ : ∃ F, F = fixUp ltInt b k D := ⟨_, rfl⟩
                have HFF : Hid (F = fixUp ltInt b k D) := hF
                have HDS2 : Hid (F.size = d.size) := by show _ = _; rw [HFF.out, fixUp_size]; exact HDS.out
                have HEQ2 : Hid (partialIns ltInt a b (5 - (s + 1)) k F = R) := by show _ = _; rw [HFF.out]; exact HEQ1.out
                clear hF HEQ1
                have HEND : Hid (∀ wx, URow w wx g c F → (∃ (i s' : Nat) (e : Array Int), Value.int .i64 (k : Int) = .int .i64 (i : Int) ∧ Value.int .i64 ((s : Int) + 1) = .int .i64 (s' : Int) ∧ s' ≤ 5 ∧ a < i ∧ i ≤ b ∧ e.size = d.size ∧ partialIns ltInt a b (5 - s') i e = R ∧ URow w wx g c e) ∧ 5 - (intOf (.int .i64 ((s : Int) + 1))).toNat < 5 - (intOf (.int .i64 (s : Int))).toNat) := fun wx hx => ⟨⟨k, s + 1, F, rfl, by go_num, by omega, by omega, by omega, HDS2.out, HEQ2.out, hx⟩, by simp [intOf]; omega⟩
                by_cases hfx : 2 ≤ b - k
                · have hfxz : (2 : Int) ≤ (b : Int) - (k : Int) := by omega
                  have HF : Hid (shiftUp ltInt b (k + 1) D = F) := by show _ = _; rw [HFF.out]; unfold fixUp; rw [if_pos hfx]
                  go_wp2_with fail
                  go_loopw [10] (fun vj wy => ∃ (j : Nat) (f : Array Int), k + 1 ≤ j ∧ j ≤ b ∧ vj = .int .i64 j ∧ f.size = d.size ∧ shiftUp ltInt b j f = F ∧ URow w wy g c f) (fun vj _ => b - (intOf vj).toNat)
                  case atStart => exact ⟨k + 1, D, Nat.le_refl _, by omega, by go_num, HDS.out, HF.out, HUS.out⟩
                  case round =>
                    obtain ⟨j, f, hj1, hj2, rfl, hfs, hfe, huf⟩ := hrel
                    have HFS : Hid _ := hfs
                    have HFE : Hid _ := hfe
                    have HUF : Hid _ := huf
                    clear hfs hfe huf
                    by_cases hjc : j < b
                    · have hjcz : (j : Int) < (b : Int) := by omega
                      have hjn : (j : Int) < (d.size : Int) := by omega
                      have hq1 : (0 : Int) ≤ (j : Int) - 1 := by omega
                      have hq2 : (j : Int) - 1 < (d.size : Int) := by omega
                      have c0 := HUF.out.cell (show j < f.size by have := HFS.out; omega)
                      have c1 := HUF.out.cell (show j - 1 < f.size by have := HFS.out; omega)
                      have z0 := HUF.out.frozen j
                      have z1 := HUF.out.frozen (j - 1)
                      have hjt : ((j : Int) - 1).toNat = j - 1 := by omega
                      have hjw : IntKind.i64.wrap ((j : Int) - 1) = (j : Int) - 1 := by rw [IntKind.wrap_i64]; omega
                      by_cases hl : f[j]! < f[j - 1]!
                      · have HST : Hid (shiftUp ltInt b (j + 1) (swp f j (j - 1)) = F) := by show _ = _; rw [← HFE.out, su_go hjc hl]
                        have HSW : Hid (∀ q, URow w (((wr.drewN q).setCell ⟨g, j, none⟩ (.int .u64 f[j - 1]!)).setCell ⟨g, j - 1, none⟩ (.int .u64 f[j]!)) g c (swp f j (j - 1))) := fun q => (HUF.out.draws q).swap (by have := HFS.out; omega) (by have := HFS.out; omega)
                        generalize f[j]! = x at c0 hl HSW
                        generalize f[j - 1]! = y at c1 hl HSW
                        have hlb : decide (x < y) = true := by simpa using hl
                        clear hl
                        go_wp2_with fail
                        go_quiet ((go_at_call 57; exact Calls.quiet_of_same (lessU_any _ _ _)))
                        go_wp2_with fail
                        go_region
                        all_goals
                          go_wp2_with fail
                          exact ⟨⟨j + 1, swp f j (j - 1), by omega, by omega, by go_num, by rw [swp_size]; exact HFS.out, HST.out, HSW.out _⟩, by simp [intOf]; omega⟩
                      · have HST : Hid (f = F) := by show _ = _; rw [← HFE.out, su_stop (.inr hl)]
                        generalize f[j]! = x at c0 hl
                        generalize f[j - 1]! = y at c1 hl
                        have hlb : decide (x < y) = false := by simpa using hl
                        clear hl
                        go_wp2_with fail
                        go_quiet ((go_at_call 57; exact Calls.quiet_of_same (lessU_any _ _ _)))
                        go_wp2_with fail
                        exact HEND.out _ (HST.out ▸ HUF.out.draws _)
                    · have hjcz : ¬ (j : Int) < (b : Int) := by omega
                      have HST : Hid (f = F) := by show _ = _; rw [← HFE.out, su_stop (.inl hjc)]
                      go_wp2_with fail
                      exact HEND.out _ (HST.out ▸ HUF.out)
                · have hfxz : ¬ (2 : Int) ≤ (b : Int) - (k : Int) := by omega
                  have HF : Hid (D = F) := by show _ = _; rw [HFF.out]; unfold fixUp; rw [if_neg hfx]
                  go_wp2_with fail
                  exact HEND.out _ (HF.out ▸ HUS.out)
    · have hltz : ¬ (s : Int) < 5 := by omega
      obtain rfl : s = 5 := by omega
      have hR : R = (e, false) := by rw [← HEQ.out]; rfl
      subst hR
      go_wp2_with fail
      go_ret
      exact ⟨rfl, HUR.out⟩
end Go.Proofs.Ytcfmcakdgamdmaa
