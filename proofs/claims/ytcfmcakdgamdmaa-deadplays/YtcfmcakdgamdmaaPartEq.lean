/- partitionEqual. -/
import Derived.Test.YtcfmcakdgamdmaaPart
namespace Go.Proofs.Ytcfmcakdgamdmaa
open Go.RowKit Go.Sort

/-- What partitionEqual leaves. -/
structure PartEqPost (w : World) (g c : Nat) (R : Nat × Array Int) (e : Ending) (w' : World) : Prop where
  is : e = .returned (.int .i64 (R.1 : Int)) ∧ URow w w' g c R.2
set_option maxHeartbeats 3200000 in
set_option maxRecDepth 100000 in
theorem partEq_any {w : World} {g c cc a b p : Nat} {d : Array Int} (h : URow w w g c d) (hap : a ≤ p) (hpb : p < b) (hb : b ≤ d.size) (hs : d.size ≤ 140737488355328) :
    Calls Try.prog 58 #[.slice (some ⟨g, 0, none⟩) d.size cc, .int .i64 (a : Int), .int .i64 (b : Int), .int .i64 (p : Int)] w fun e w' => PartEqPost w g c (partitionEqual ltInt d a b p) e w' := by
  have HES0 : Hid (d.size = d.size) := rfl
  have HUS : Hid _ := h
  clear h
  go_enter Try.func58, Try.ntmps58
  go_wp2_with fail

  have hiN : (a : Int) < (d.size : Int) := by have := HES0.out; omega
  have hjN : (p : Int) < (d.size : Int) := by have := HES0.out; omega
  have cI := HUS.out.cell (show a < d.size by have := HES0.out; omega)
  have cJ := HUS.out.cell (show p < d.size by have := HES0.out; omega)
  have fI := HUS.out.frozen a
  have fJ := HUS.out.frozen p
  have HSW : Hid (∀ q, URow w (((w.drewN q).setCell ⟨g, a, none⟩ (.int .u64 d[p]!)).setCell ⟨g, p, none⟩ (.int .u64 d[a]!)) g c (swp d a p)) := fun q => (HUS.out.draws q).swap (by have := HES0.out; omega) (by have := HES0.out; omega)
  go_cut [11] (fun _ wx => URow w wx g c (swp d a p))
  case first =>
    by_cases hEq : p = a
    · subst hEq
      generalize d[p]! = x at cI cJ HSW
      go_region
      all_goals
        go_wp2_with fail
        go_meet
        exact HSW.out _
    · have hEq2 : ¬ a = p := fun h => hEq h.symm
      generalize d[p]! = x at cJ HSW
      generalize d[a]! = y at cI HSW
      go_region
      all_goals
        go_wp2_with fail
        go_meet
        exact HSW.out _
  case rest =>
    have hes := swp_size d a p
    obtain ⟨hi, hhi⟩ : ∃ hi, hi = b - 1 := ⟨_, rfl⟩
    have hhz : (b : Int) - 1 = (hi : Int) := by omega
    have hhd : hi < d.size := by omega
    have HPE : Hid (partitionEqual ltInt d a b p = partEqLoop ltInt a (a + 1) hi (swp d a p)) := by show _ = _; rw [hhi]; rfl
    obtain ⟨e, he⟩ : ∃ e, e = swp d a p := ⟨_, rfl⟩
    rw [← he] at hes hcut HPE
    have HUF : Hid _ := hcut
    have HFS : Hid _ := hes
    have hahi : a ≤ hi := by omega
    clear hcut hes he HUS cI cJ fI fJ HSW hiN hjN hhi
    obtain ⟨r1, r2, hr12⟩ : ∃ r1 r2, partEqLoop ltInt a (a + 1) hi e = (r1, r2) := ⟨_, _, rfl⟩
    rw [hr12] at HPE
    have HR12 : Hid _ := hr12
    clear hr12
    go_upto_block 0 with fail
    go_cut [9, 10] (fun vi vj wx => vi = .int .i64 (r1 : Int) ∧ a ≤ r1 ∧ r1 ≤ hi + 1 ∧ r2.size = d.size ∧ URow w wx g c r2)
    case first =>
      go_wp2_with fail
      go_loopw [9, 10] (fun vi vj wx => ∃ (ia ja : Nat) (z : Int) (f : Array Int), z = (ja : Int) ∧ a + 1 ≤ ia ∧ ia ≤ hi + 1 ∧ a ≤ ja ∧ ja ≤ hi ∧ vi = .int .i64 ia ∧ vj = .int .i64 z ∧ f.size = d.size ∧ partEqLoop ltInt a ia ja f = (r1, r2) ∧ URow w wx g c f) (fun vi vj _ => (intOf vj + 2 - intOf vi).toNat)
      case atStart => exact ⟨a + 1, hi, (hi : Int), e, by omega, by omega, by omega, by omega, by omega, by first | rfl | go_num, rfl, HFS.out, HR12.out, HUF.out⟩
      case round =>
        obtain ⟨ia, ja, z, f, hz, hia, hih, hja, hjh, rfl, rfl, hfs, hfe, huf⟩ := hrel
        subst hz
        have HFE : Hid _ := hfe
        have HES : Hid _ := hfs
        have HUC : Hid _ := huf
        clear hfe hfs huf
        obtain ⟨P, hP⟩ : ∃ P : Int → Bool, P = fun x => !ltInt f[a]! x := ⟨_, rfl⟩
        obtain ⟨R, hR⟩ : ∃ R : Int → Bool, R = fun x => ltInt f[a]! x := ⟨_, rfl⟩
        obtain ⟨i2, hi2⟩ : ∃ i2, i2 = scanUp P f ja ia := ⟨_, rfl⟩
        obtain ⟨j2, hj2⟩ : ∃ j2, j2 = scanDown R f i2 ja := ⟨_, rfl⟩
        have hb1 := up_bound P f ja ia
        rw [← hi2] at hb1
        have hb2 := down_bound R f i2 ja (by omega)
        rw [← hj2] at hb2
        have HI2 : Hid _ := hi2
        have HJ2 : Hid _ := hj2
        have HPd : Hid _ := hP
        have HRd : Hid _ := hR
        obtain ⟨hb11, hb12⟩ := hb1
        obtain ⟨hb21, hb22⟩ := hb2
        have hi2d : i2 ≤ hi + 1 := by omega
        have hj2a : a ≤ j2 := by omega
        have HLE := partEqLoop_eq ltInt a ia ja f
        rw [← hP, ← hR, ← hi2, ← hj2] at HLE
        have HLQ : Hid _ := HLE
        clear hi2 hj2 hb12 hb22 HLE hP hR
        go_upto_block 2 with fail
        go_cut [9] (fun vi wx => vi = .int .i64 (i2 : Int) ∧ URow w wx g c f)
        case first =>
          go_wp2_with fail
          go_loopw [9] (fun vi wx => ∃ i : Nat, ia ≤ i ∧ i ≤ d.size ∧ vi = .int .i64 i ∧ scanUp P f ja i = i2 ∧ URow w wx g c f) (fun vi _ => d.size + 1 - (intOf vi).toNat)
          case atStart => exact ⟨ia, Nat.le_refl _, by omega, by first | rfl | go_num, HI2.out.symm, HUC.out⟩
          case round =>
            obtain ⟨i, hai, hih, rfl, hsc, hur⟩ := hrel
            have HSC : Hid _ := hsc
            have HUR : Hid _ := hur
            by_cases hle : i ≤ ja
            · have hlez : (i : Int) ≤ (ja : Int) := by omega
              have hin : (i : Int) < (d.size : Int) := by omega
              have ci := hur.cell (show i < f.size by have := HES.out; omega)
              have ca := hur.cell (show a < f.size by have := HES.out; omega)
              have HPI : Hid (P f[i]! = (!decide (f[a]! < f[i]!))) := by show _ = _; rw [HPd.out]; rfl
              by_cases hl : f[a]! < f[i]!
              · have HST : Hid (i = i2) := by show _ = _; rw [← HSC.out, up_stop (.inr (by rw [HPI.out]; simpa using hl))]
                generalize f[i]! = x at ci hl
                generalize f[a]! = y at ca hl
                have hlb : decide (y < x) = true := by simpa using hl
                clear hsc hur HPI hl
                go_wp2_with fail
                go_quiet ((go_at_call 57; exact Calls.quiet_of_same (lessU_any _ _ _)))
                go_wp2_with fail
                go_meet
                exact ⟨by rw [HST.out], HUR.out.draws _⟩
              · have HST : Hid (scanUp P f ja (i + 1) = i2) := by show _ = _; rw [← HSC.out, up_step hle (by rw [HPI.out]; simpa using hl)]
                generalize f[i]! = x at ci hl
                generalize f[a]! = y at ca hl
                have hlb : decide (y < x) = false := by simpa using hl
                clear hsc hur HPI hl
                go_wp2_with fail
                go_quiet ((go_at_call 57; exact Calls.quiet_of_same (lessU_any _ _ _)))
                go_wp2_with fail
                exact ⟨⟨i + 1, by omega, by omega, by go_num, HST.out, HUR.out.draws _⟩, by simp [intOf]; omega⟩
            · have hlez : ¬ (i : Int) ≤ (ja : Int) := by omega
              have HST : Hid (i = i2) := by show _ = _; rw [← HSC.out, up_stop (.inl hle)]
              clear hsc hur
              go_wp2_with fail
              go_quiet (fail)
              go_wp2_with fail
              go_meet
              exact ⟨by rw [HST.out], HUR.out.draws _⟩
        case rest =>
          obtain ⟨rfl, hur⟩ := hcut
          have HU2 : Hid _ := hur
          clear hur
          go_upto_block 4 with fail
          go_cut [10] (fun vj wx => vj = .int .i64 (j2 : Int) ∧ URow w wx g c f)
          case first =>
            go_wp2_with fail
            go_loopw [10] (fun vj wx => ∃ (j : Nat) (z : Int), z = (j : Int) ∧ a ≤ j ∧ j ≤ ja ∧ vj = .int .i64 z ∧ scanDown R f i2 j = j2 ∧ URow w wx g c f) (fun vj _ => (intOf vj + 1).toNat)
            case atStart => exact ⟨ja, (ja : Int), rfl, by omega, Nat.le_refl _, by first | rfl | go_num, HJ2.out.symm, HU2.out⟩
            case round =>
              obtain ⟨j, z, hz, haj, hjh, rfl, hsc, hur⟩ := hrel
              have HSC : Hid _ := hsc
              have HUR : Hid _ := hur
              by_cases hle : i2 ≤ j
              · obtain ⟨m, rfl⟩ : ∃ m, j = m + 1 := ⟨j - 1, by omega⟩
                subst hz
                have hlez : (i2 : Int) ≤ ((m + 1 : Nat) : Int) := by omega
                have hlez2 : (i2 : Int) ≤ (m : Int) + 1 := by omega
                have hin : ((m + 1 : Nat) : Int) < (d.size : Int) := by omega
                have hin2 : (m : Int) + 1 < (d.size : Int) := by omega
                have ci := hur.cell (show m + 1 < f.size by have := HES.out; omega)
                have ca := hur.cell (show a < f.size by have := HES.out; omega)
                have HPI : Hid (R f[m + 1]! = (decide (f[a]! < f[m + 1]!))) := by show _ = _; rw [HRd.out]; rfl
                by_cases hl : f[a]! < f[m + 1]!
                · have HST : Hid (scanDown R f i2 m = j2) := by show _ = _; rw [← HSC.out, down_step (by omega) (by rw [HPI.out]; simpa using hl)]
                  generalize f[m + 1]! = x at ci hl
                  generalize f[a]! = y at ca hl
                  have hlb : decide (y < x) = true := by simpa using hl
                  clear hsc hur HPI hl
                  go_wp2_with fail
                  go_quiet ((go_at_call 57; exact Calls.quiet_of_same (lessU_any _ _ _)))
                  go_wp2_with fail
                  exact ⟨⟨m, (m : Int), rfl, by omega, by omega, by first | rfl | go_num, HST.out, HUR.out.draws _⟩, by simp [intOf]; omega⟩
                · have HST : Hid (m + 1 = j2) := by show _ = _; rw [← HSC.out, down_stop (.inl (by omega)) (.inr (by rw [HPI.out]; simpa using hl))]
                  generalize f[m + 1]! = x at ci hl
                  generalize f[a]! = y at ca hl
                  have hlb : decide (y < x) = false := by simpa using hl
                  clear hsc hur HPI hl
                  go_wp2_with fail
                  go_quiet ((go_at_call 57; exact Calls.quiet_of_same (lessU_any _ _ _)))
                  go_wp2_with fail
                  go_meet
                  exact ⟨by rw [← HST.out], HUR.out.draws _⟩
              · subst hz
                have hlez : ¬ (i2 : Int) ≤ (j : Int) := by omega
                have HST : Hid (j = j2) := by show _ = _; rw [← HSC.out, down_stop (.inr (by omega)) (.inl hle)]
                clear hsc hur
                go_wp2_with fail
                go_quiet (fail)
                go_wp2_with fail
                go_meet
                exact ⟨by rw [HST.out], HUR.out.draws _⟩
          case rest =>
            obtain ⟨rfl, hur⟩ := hcut
            have HUS : Hid _ := hur
            clear hur
            by_cases hij : j2 < i2
            · have hijz : (j2 : Int) < (i2 : Int) := by omega
              have HRE : Hid ((i2, f) = (r1, r2)) := by show _ = _; rw [← HFE.out, HLQ.out, if_pos hij]
              go_wp2_with fail
              go_meet
              have hre := HRE.out
              cases hre
              exact ⟨rfl, by omega, by omega, HES.out, HUS.out⟩
            · have hijz : ¬ (j2 : Int) < (i2 : Int) := by omega
              have HRE : Hid (partEqLoop ltInt a (i2 + 1) (j2 - 1) (swp f i2 j2) = (r1, r2)) := by show _ = _; rw [← HFE.out, HLQ.out, if_neg hij]
              go_wp2_with fail
              have hiN : (i2 : Int) < (d.size : Int) := by have := HES.out; omega
              have hjN : (j2 : Int) < (d.size : Int) := by have := HES.out; omega
              have cI := HUS.out.cell (show i2 < f.size by have := HES.out; omega)
              have cJ := HUS.out.cell (show j2 < f.size by have := HES.out; omega)
              have fI := HUS.out.frozen i2
              have fJ := HUS.out.frozen j2
              have HSW : Hid (∀ q, URow w (((wc.drewN q).setCell ⟨g, i2, none⟩ (.int .u64 f[j2]!)).setCell ⟨g, j2, none⟩ (.int .u64 f[i2]!)) g c (swp f i2 j2)) := fun q => (HUS.out.draws q).swap (by have := HES.out; omega) (by have := HES.out; omega)
              go_cut [65] (fun _ wx => URow w wx g c (swp f i2 j2))
              case first =>
                by_cases hEq : j2 = i2
                · subst hEq
                  generalize f[j2]! = x at cI cJ HSW
                  go_region
                  all_goals
                    go_wp2_with fail
                    go_meet
                    exact HSW.out _
                · have hEq2 : ¬ i2 = j2 := fun h => hEq h.symm
                  generalize f[j2]! = x at cJ HSW
                  generalize f[i2]! = y at cI HSW
                  go_region
                  all_goals
                    go_wp2_with fail
                    go_meet
                    exact HSW.out _
              case rest =>
                have HUG : Hid _ := hcut
                have HGS : Hid ((swp f i2 j2).size = d.size) := by show _ = _; rw [swp_size]; exact HES.out
                clear hcut HUS cI cJ fI fJ HSW hiN hjN
                go_wp2_with fail
                exact ⟨⟨i2 + 1, j2 - 1, (j2 : Int) - 1, swp f i2 j2, by omega, by omega, by omega, by omega, by omega, by go_num, rfl, HGS.out, HRE.out, HUG.out⟩, by simp [intOf]; omega⟩
    case rest =>
      obtain ⟨rfl, hr1a, _, hr2s, hur⟩ := hcut
      have HUS : Hid _ := hur
      clear hur hr2s
      go_wp2_with fail
      go_ret
      exact ⟨by rw [HPE.out]; rfl, by rw [HPE.out]; exact HUS.out⟩
end Go.Proofs.Ytcfmcakdgamdmaa
