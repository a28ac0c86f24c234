/- partition, partitionEqual. -/
import Derived.Test.YtcfmcakdgamdmaaHeap2
import Derived.Deep.DeepCutAuto
import Derived.Deep.CutBlock
namespace Go.Proofs.Ytcfmcakdgamdmaa
open Go.RowKit Go.Sort

theorem up_step {p : Int → Bool} {d : Array Int} {j i : Nat} (h : i ≤ j) (hp : p d[i]! = true) : scanUp p d j i = scanUp p d j (i + 1) := by
  rw [scanUp, if_pos (by simp [h, hp])]
theorem up_stop {p : Int → Bool} {d : Array Int} {j i : Nat} (h : ¬ i ≤ j ∨ p d[i]! = false) : scanUp p d j i = i := by
  rw [scanUp, if_neg]
  rcases h with h | h
  · simp [h]
  · simp [h]
theorem down_step {p : Int → Bool} {d : Array Int} {j i : Nat} (h : i ≤ j + 1) (hp : p d[j + 1]! = true) : scanDown p d i (j + 1) = scanDown p d i j := by
  rw [scanDown, if_pos (by simp [h, hp])]
theorem down_stop {p : Int → Bool} {d : Array Int} {j i : Nat} (h0 : 0 < j ∨ 0 < i) (h : ¬ i ≤ j ∨ p d[j]! = false) : scanDown p d i j = j := by
  cases j with
  | zero => rfl
  | succ j =>
    rw [scanDown, if_neg]
    rcases h with h | h
    · simp [h]
    · simp [h]
theorem part_yes {d e : Array Int} {a b p hi i2 j2 : Nat} (he : e = swp d a p) (hh : hi = b - 1) (h1 : i2 = scanUp (fun x => ltInt x e[a]!) e hi (a + 1)) (h2 : j2 = scanDown (fun x => !ltInt x e[a]!) e i2 hi) (h : j2 < i2) : partition ltInt d a b p = (j2, true, swp e j2 a) := by
  subst he hh
  unfold partition
  simp only
  rw [← h1, ← h2, if_pos h]
theorem part_no {d e : Array Int} {a b p hi i2 j2 : Nat} (he : e = swp d a p) (hh : hi = b - 1) (h1 : i2 = scanUp (fun x => ltInt x e[a]!) e hi (a + 1)) (h2 : j2 = scanDown (fun x => !ltInt x e[a]!) e i2 hi) (h : ¬ j2 < i2) : partition ltInt d a b p = ((partLoop ltInt a (i2 + 1) (j2 - 1) (swp e i2 j2)).1, false, swp (partLoop ltInt a (i2 + 1) (j2 - 1) (swp e i2 j2)).2 (partLoop ltInt a (i2 + 1) (j2 - 1) (swp e i2 j2)).1 a) := by
  subst he hh
  unfold partition
  simp only
  rw [← h1, ← h2, if_neg h]
theorem up_bound (p : Int → Bool) (d : Array Int) (j i : Nat) : i ≤ scanUp p d j i ∧ scanUp p d j i ≤ max i (j + 1) := by
  have h := scanUp_spec p d j _ i rfl
  refine ⟨h.1, ?_⟩
  by_cases hi : i ≤ j + 1
  · have := h.2.1 hi
    omega
  · rw [up_stop (.inl (by omega))]
    omega
theorem down_bound (p : Int → Bool) (d : Array Int) (i j : Nat) (hi : 0 < i) : scanDown p d i j ≤ j ∧ min j (i - 1) ≤ scanDown p d i j := by
  have h := scanDown_spec p d i j
  refine ⟨h.1, ?_⟩
  by_cases hij : i ≤ j + 1
  · have := h.2.1 hij
    omega
  · rw [down_stop (.inr hi) (.inl (by omega))]
    omega
/-- What the partition leaves. -/
structure PartPost (w : World) (g c : Nat) (R : Nat × Bool × Array Int) (e : Ending) (w' : World) : Prop where
  is : e = .returned (.tuple #[.int .i64 (R.1 : Int), .bool R.2.1]) ∧ URow w w' g c R.2.2
set_option maxHeartbeats 3200000 in
set_option maxRecDepth 100000 in
theorem part_any {w : World} {g c cc a b p : Nat} {d : Array Int} (h : URow w w g c d) (hap : a ≤ p) (hpb : p < b) (hb : b ≤ d.size) (hs : d.size ≤ 140737488355328) :
    Calls Try.prog 59 #[.slice (some ⟨g, 0, none⟩) d.size cc, .int .i64 (a : Int), .int .i64 (b : Int), .int .i64 (p : Int)] w fun e w' => PartPost w g c (partition ltInt d a b p) e w' := by
  have HES0 : Hid (d.size = d.size) := rfl
  have HUS : Hid _ := h
  clear h
  go_enter Try.func59, Try.ntmps59
  go_wp2_with fail

  have hiN : (a : Int) < (d.size : Int) := by have := HES0.out; omega
  have hjN : (p : Int) < (d.size : Int) := by have := HES0.out; omega
  have cI := HUS.out.cell (show a < d.size by have := HES0.out; omega)
  have cJ := HUS.out.cell (show p < d.size by have := HES0.out; omega)
  have fI := HUS.out.frozen a
  have fJ := HUS.out.frozen p
  have HSW : Hid (∀ q, URow w (((w.drewN q).setCell ⟨g, a, none⟩ (.int .u64 d[p]!)).setCell ⟨g, p, none⟩ (.int .u64 d[a]!)) g c (swp d a p)) := fun q => (HUS.out.draws q).swap (by have := HES0.out; omega) (by have := HES0.out; omega)
  go_cut [12] (fun _ wx => URow w wx g c (swp d a p))
  case first =>
    by_cases hEq : p = a
    · subst hEq
      generalize d[p]! = x at cI cJ HSW
      go_region
      all_goals
        go_wp2_with fail
        go_meet
        exact HSW.out _
    · have hEq2 : ¬ a = p := fun h => hEq h.symm
      generalize d[p]! = x at cJ HSW
      generalize d[a]! = y at cI HSW
      go_region
      all_goals
        go_wp2_with fail
        go_meet
        exact HSW.out _
  case rest =>
    have hes := swp_size d a p
    obtain ⟨hi, hhi⟩ : ∃ hi, hi = b - 1 := ⟨_, rfl⟩
    have hhz : (b : Int) - 1 = (hi : Int) := by omega
    have hhd : hi < d.size := by omega
    obtain ⟨e, he⟩ : ∃ e, e = swp d a p := ⟨_, rfl⟩
    rw [← he] at hes hcut
    have HUC : Hid _ := hcut
    have HED : Hid _ := he
    have HHI : Hid _ := hhi
    have HES : Hid _ := hes
    have hahi : a ≤ hi := by omega
    clear hcut hes he HUS cI cJ fI fJ HSW hiN hjN
    obtain ⟨P, hP⟩ : ∃ P : Int → Bool, P = fun x => ltInt x e[a]! := ⟨_, rfl⟩
    obtain ⟨R, hR⟩ : ∃ R : Int → Bool, R = fun x => !ltInt x e[a]! := ⟨_, rfl⟩
    obtain ⟨i2, hi2⟩ : ∃ i2, i2 = scanUp P e hi (a + 1) := ⟨_, rfl⟩
    obtain ⟨j2, hj2⟩ : ∃ j2, j2 = scanDown R e i2 hi := ⟨_, rfl⟩
    have hb1 := up_bound P e hi (a + 1)
    rw [← hi2] at hb1
    have hb2 := down_bound R e i2 hi (by omega)
    rw [← hj2] at hb2
    have HI2 : Hid _ := hi2
    have HJ2 : Hid _ := hj2
    have HPd : Hid _ := hP
    have HRd : Hid _ := hR
    obtain ⟨hb11, hb12⟩ := hb1
    obtain ⟨hb21, hb22⟩ := hb2
    have hi2d : i2 ≤ d.size := by omega
    have hj2a : a ≤ j2 := by omega
    clear hi2 hj2 hhi hb12 hb22
    go_upto_block 0 with fail
    go_cut [10] (fun vi wx => vi = .int .i64 (i2 : Int) ∧ URow w wx g c e)
    case first =>
      go_wp2_with fail
      go_loopw [10] (fun vi wx => ∃ i : Nat, a + 1 ≤ i ∧ i ≤ d.size ∧ vi = .int .i64 i ∧ scanUp P e hi i = i2 ∧ URow w wx g c e) (fun vi _ => d.size + 1 - (intOf vi).toNat)
      case atStart => exact ⟨a + 1, Nat.le_refl _, by omega, by first | rfl | go_num, HI2.out.symm, HUC.out⟩
      case round =>
        obtain ⟨i, hai, hih, rfl, hsc, hur⟩ := hrel
        have HSC : Hid _ := hsc
        have HUR : Hid _ := hur
        by_cases hle : i ≤ hi
        · have hlez : (i : Int) ≤ (hi : Int) := by omega
          have hin : (i : Int) < (d.size : Int) := by omega
          have ci := hur.cell (show i < e.size by have := HES.out; omega)
          have ca := hur.cell (show a < e.size by have := HES.out; omega)
          have HPI : Hid (P e[i]! = (decide (e[i]! < e[a]!))) := by show _ = _; rw [HPd.out]; rfl
          by_cases hl : e[i]! < e[a]!
          · have HST : Hid (scanUp P e hi (i + 1) = i2) := by show _ = _; rw [← HSC.out, up_step hle (by rw [HPI.out]; simpa using hl)]
            generalize e[i]! = x at ci hl
            generalize e[a]! = y at ca hl
            have hlb : decide (x < y) = true := by simpa using hl
            clear hsc hur HPI hl
            go_wp2_with fail
            go_quiet ((go_at_call 57; exact Calls.quiet_of_same (lessU_any _ _ _)))
            go_wp2_with fail
            exact ⟨⟨i + 1, by omega, by omega, by go_num, HST.out, HUR.out.draws _⟩, by simp [intOf]; omega⟩
          · have HST : Hid (i = i2) := by show _ = _; rw [← HSC.out, up_stop (.inr (by rw [HPI.out]; simpa using hl))]
            generalize e[i]! = x at ci hl
            generalize e[a]! = y at ca hl
            have hlb : decide (x < y) = false := by simpa using hl
            clear hsc hur HPI hl
            go_wp2_with fail
            go_quiet ((go_at_call 57; exact Calls.quiet_of_same (lessU_any _ _ _)))
            go_wp2_with fail
            go_meet
            exact ⟨by rw [HST.out], HUR.out.draws _⟩
        · have hlez : ¬ (i : Int) ≤ (hi : Int) := by omega
          have HST : Hid (i = i2) := by show _ = _; rw [← HSC.out, up_stop (.inl hle)]
          clear hsc hur
          go_wp2_with fail
          go_quiet (fail)
          go_wp2_with fail
          go_meet
          exact ⟨by rw [HST.out], HUR.out.draws _⟩
    case rest =>
      obtain ⟨rfl, hur⟩ := hcut
      have HU2 : Hid _ := hur
      clear hur
      go_upto_block 2 with fail
      go_cut [11] (fun vj wx => vj = .int .i64 (j2 : Int) ∧ URow w wx g c e)
      case first =>
        go_wp2_with fail
        go_loopw [11] (fun vj wx => ∃ (j : Nat) (z : Int), z = (j : Int) ∧ a ≤ j ∧ j ≤ hi ∧ vj = .int .i64 z ∧ scanDown R e i2 j = j2 ∧ URow w wx g c e) (fun vj _ => (intOf vj + 1).toNat)
        case atStart => exact ⟨hi, (hi : Int), rfl, by omega, Nat.le_refl _, by first | rfl | go_num, HJ2.out.symm, HU2.out⟩
        case round =>
          obtain ⟨j, z, hz, haj, hjh, rfl, hsc, hur⟩ := hrel
          have HSC : Hid _ := hsc
          have HUR : Hid _ := hur
          by_cases hle : i2 ≤ j
          · obtain ⟨m, rfl⟩ : ∃ m, j = m + 1 := ⟨j - 1, by omega⟩
            subst hz
            have hlez : (i2 : Int) ≤ ((m + 1 : Nat) : Int) := by omega
            have hlez2 : (i2 : Int) ≤ (m : Int) + 1 := by omega
            have hin : ((m + 1 : Nat) : Int) < (d.size : Int) := by omega
            have hin2 : (m : Int) + 1 < (d.size : Int) := by omega
            have ci := hur.cell (show m + 1 < e.size by have := HES.out; omega)
            have ca := hur.cell (show a < e.size by have := HES.out; omega)
            have HPI : Hid (R e[m + 1]! = (!decide (e[m + 1]! < e[a]!))) := by show _ = _; rw [HRd.out]; rfl
            by_cases hl : e[m + 1]! < e[a]!
            · have HST : Hid (m + 1 = j2) := by show _ = _; rw [← HSC.out, down_stop (.inl (by omega)) (.inr (by rw [HPI.out]; simpa using hl))]
              generalize e[m + 1]! = x at ci hl
              generalize e[a]! = y at ca hl
              have hlb : decide (x < y) = true := by simpa using hl
              clear hsc hur HPI hl
              go_wp2_with fail
              go_quiet ((go_at_call 57; exact Calls.quiet_of_same (lessU_any _ _ _)))
              go_wp2_with fail
              go_meet
              exact ⟨by rw [← HST.out], HUR.out.draws _⟩
            · have HST : Hid (scanDown R e i2 m = j2) := by show _ = _; rw [← HSC.out, down_step (by omega) (by rw [HPI.out]; simpa using hl)]
              generalize e[m + 1]! = x at ci hl
              generalize e[a]! = y at ca hl
              have hlb : decide (x < y) = false := by simpa using hl
              clear hsc hur HPI hl
              go_wp2_with fail
              go_quiet ((go_at_call 57; exact Calls.quiet_of_same (lessU_any _ _ _)))
              go_wp2_with fail
              exact ⟨⟨m, (m : Int), rfl, by omega, by omega, by first | rfl | go_num, HST.out, HUR.out.draws _⟩, by simp [intOf]; omega⟩
          · subst hz
            have hlez : ¬ (i2 : Int) ≤ (j : Int) := by omega
            have HST : Hid (j = j2) := by show _ = _; rw [← HSC.out, down_stop (.inr (by omega)) (.inl hle)]
            clear hsc hur
            go_wp2_with fail
            go_quiet (fail)
            go_wp2_with fail
            go_meet
            exact ⟨by rw [HST.out], HUR.out.draws _⟩
      case rest =>
        obtain ⟨rfl, hur⟩ := hcut
        have HUS : Hid _ := hur
        clear hur
        by_cases hij : j2 < i2
        · have hijz : (j2 : Int) < (i2 : Int) := by omega
          have HPE : Hid (partition ltInt d a b p = (j2, true, swp e j2 a)) := part_yes HED.out HHI.out (by rw [← HPd.out]; exact HI2.out) (by rw [← HRd.out]; exact HJ2.out) hij
          go_wp2_with fail
          have hiN : (j2 : Int) < (d.size : Int) := by have := HES.out; omega
          have hjN : (a : Int) < (d.size : Int) := by have := HES.out; omega
          have cI := HUS.out.cell (show j2 < e.size by have := HES.out; omega)
          have cJ := HUS.out.cell (show a < e.size by have := HES.out; omega)
          have fI := HUS.out.frozen j2
          have fJ := HUS.out.frozen a
          have HSW : Hid (∀ q, URow w (((wc.drewN q).setCell ⟨g, j2, none⟩ (.int .u64 e[a]!)).setCell ⟨g, a, none⟩ (.int .u64 e[j2]!)) g c (swp e j2 a)) := fun q => (HUS.out.draws q).swap (by have := HES.out; omega) (by have := HES.out; omega)
          go_cut [66] (fun _ wx => URow w wx g c (swp e j2 a))
          case first =>
            by_cases hEq : a = j2
            · subst hEq
              generalize e[a]! = x at cI cJ HSW
              go_region
              all_goals
                go_wp2_with fail
                go_meet
                exact HSW.out _
            · have hEq2 : ¬ j2 = a := fun h => hEq h.symm
              generalize e[a]! = x at cJ HSW
              generalize e[j2]! = y at cI HSW
              go_region
              all_goals
                go_wp2_with fail
                go_meet
                exact HSW.out _
          case rest =>
            have HUF : Hid _ := hcut
            clear hcut HUS cI cJ fI fJ HSW hiN hjN
            go_wp2_with fail
            go_ret2
            exact ⟨by rw [HPE.out]; rfl, by rw [HPE.out]; exact HUF.out⟩
        · have hijz : ¬ (j2 : Int) < (i2 : Int) := by omega
          have HPE : Hid (partition ltInt d a b p = _) := part_no HED.out HHI.out (by rw [← HPd.out]; exact HI2.out) (by rw [← HRd.out]; exact HJ2.out) hij
          go_wp2_with fail
          have hiN : (i2 : Int) < (d.size : Int) := by have := HES.out; omega
          have hjN : (j2 : Int) < (d.size : Int) := by have := HES.out; omega
          have cI := HUS.out.cell (show i2 < e.size by have := HES.out; omega)
          have cJ := HUS.out.cell (show j2 < e.size by have := HES.out; omega)
          have fI := HUS.out.frozen i2
          have fJ := HUS.out.frozen j2
          have HSW : Hid (∀ q, URow w (((wc.drewN q).setCell ⟨g, i2, none⟩ (.int .u64 e[j2]!)).setCell ⟨g, j2, none⟩ (.int .u64 e[i2]!)) g c (swp e i2 j2)) := fun q => (HUS.out.draws q).swap (by have := HES.out; omega) (by have := HES.out; omega)
          go_cut [81] (fun _ wx => URow w wx g c (swp e i2 j2))
          case first =>
            by_cases hEq : j2 = i2
            · subst hEq
              generalize e[j2]! = x at cI cJ HSW
              go_region
              all_goals
                go_wp2_with fail
                go_meet
                exact HSW.out _
            · have hEq2 : ¬ i2 = j2 := fun h => hEq h.symm
              generalize e[j2]! = x at cJ HSW
              generalize e[i2]! = y at cI HSW
              go_region
              all_goals
                go_wp2_with fail
                go_meet
                exact HSW.out _
          case rest =>
            have HUF : Hid _ := hcut
            have HFS : Hid ((swp e i2 j2).size = d.size) := by show _ = _; rw [swp_size]; exact HES.out
            obtain ⟨f0, hf0⟩ : ∃ f0, f0 = swp e i2 j2 := ⟨_, rfl⟩
            rw [← hf0] at HUF HFS HPE
            clear hcut HUS cI cJ fI fJ HSW hiN hjN hf0
            obtain ⟨r1, r2, hr12⟩ : ∃ r1 r2, partLoop ltInt a (i2 + 1) (j2 - 1) f0 = (r1, r2) := ⟨_, _, rfl⟩
            rw [hr12] at HPE
            have HR12 : Hid _ := hr12
            clear hr12

            go_upto_block 4 with fail
            go_cut [10, 11] (fun vi vj wx => vj = .int .i64 (r1 : Int) ∧ a ≤ r1 ∧ r1 ≤ hi + 1 ∧ r2.size = d.size ∧ URow w wx g c r2 ∧ r1 ≤ hi)
            case first =>
              go_wp2_with fail
              go_loopw [10, 11] (fun vi vj wx => ∃ (ia ja : Nat) (z : Int) (f : Array Int), z = (ja : Int) ∧ a + 1 ≤ ia ∧ ia ≤ hi + 1 ∧ a ≤ ja ∧ ja ≤ hi ∧ vi = .int .i64 ia ∧ vj = .int .i64 z ∧ f.size = d.size ∧ partLoop ltInt a ia ja f = (r1, r2) ∧ URow w wx g c f) (fun vi vj _ => (intOf vj + 2 - intOf vi).toNat)
              case atStart => exact ⟨i2 + 1, j2 - 1, (j2 : Int) - 1, f0, by omega, by omega, by omega, by omega, by omega, by first | rfl | go_num, rfl, HFS.out, HR12.out, HUF.out⟩
              case round =>
                obtain ⟨ia, ja, z, f, hz, hia, hih, hja, hjh, rfl, rfl, hfs, hfe, huf⟩ := hrel
                subst hz
                have HFE : Hid _ := hfe
                have HES : Hid _ := hfs
                have HUC : Hid _ := huf
                clear hfe hfs huf
                obtain ⟨P, hP⟩ : ∃ P : Int → Bool, P = fun x => ltInt x f[a]! := ⟨_, rfl⟩
                obtain ⟨R, hR⟩ : ∃ R : Int → Bool, R = fun x => !ltInt x f[a]! := ⟨_, rfl⟩
                obtain ⟨i2, hi2⟩ : ∃ i2, i2 = scanUp P f ja ia := ⟨_, rfl⟩
                obtain ⟨j2, hj2⟩ : ∃ j2, j2 = scanDown R f i2 ja := ⟨_, rfl⟩
                have hb1 := up_bound P f ja ia
                rw [← hi2] at hb1
                have hb2 := down_bound R f i2 ja (by omega)
                rw [← hj2] at hb2
                have HI2 : Hid _ := hi2
                have HJ2 : Hid _ := hj2
                have HPd : Hid _ := hP
                have HRd : Hid _ := hR
                obtain ⟨hb11, hb12⟩ := hb1
                obtain ⟨hb21, hb22⟩ := hb2
                have hi2d : i2 ≤ hi + 1 := by omega
                have hj2a : a ≤ j2 := by omega
                have HLE := partLoop_eq ltInt a ia ja f
                rw [← hP, ← hR, ← hi2, ← hj2] at HLE
                have HLQ : Hid _ := HLE
                clear hi2 hj2 hb12 hb22 HLE hP hR
                go_upto_block 6 with fail
                go_cut [10] (fun vi wx => vi = .int .i64 (i2 : Int) ∧ URow w wx g c f)
                case first =>
                  go_wp2_with fail
                  go_loopw [10] (fun vi wx => ∃ i : Nat, ia ≤ i ∧ i ≤ d.size ∧ vi = .int .i64 i ∧ scanUp P f ja i = i2 ∧ URow w wx g c f) (fun vi _ => d.size + 1 - (intOf vi).toNat)
                  case atStart => exact ⟨ia, Nat.le_refl _, by omega, by first | rfl | go_num, HI2.out.symm, HUC.out⟩
                  case round =>
                    obtain ⟨i, hai, hih, rfl, hsc, hur⟩ := hrel
                    have HSC : Hid _ := hsc
                    have HUR : Hid _ := hur
                    by_cases hle : i ≤ ja
                    · have hlez : (i : Int) ≤ (ja : Int) := by omega
                      have hin : (i : Int) < (d.size : Int) := by omega
                      have ci := hur.cell (show i < f.size by have := HES.out; omega)
                      have ca := hur.cell (show a < f.size by have := HES.out; omega)
                      have HPI : Hid (P f[i]! = (decide (f[i]! < f[a]!))) := by show _ = _; rw [HPd.out]; rfl
                      by_cases hl : f[i]! < f[a]!
                      · have HST : Hid (scanUp P f ja (i + 1) = i2) := by show _ = _; rw [← HSC.out, up_step hle (by rw [HPI.out]; simpa using hl)]
                        generalize f[i]! = x at ci hl
                        generalize f[a]! = y at ca hl
                        have hlb : decide (x < y) = true := by simpa using hl
                        clear hsc hur HPI hl
                        go_wp2_with fail
                        go_quiet ((go_at_call 57; exact Calls.quiet_of_same (lessU_any _ _ _)))
                        go_wp2_with fail
                        exact ⟨⟨i + 1, by omega, by omega, by go_num, HST.out, HUR.out.draws _⟩, by simp [intOf]; omega⟩
                      · have HST : Hid (i = i2) := by show _ = _; rw [← HSC.out, up_stop (.inr (by rw [HPI.out]; simpa using hl))]
                        generalize f[i]! = x at ci hl
                        generalize f[a]! = y at ca hl
                        have hlb : decide (x < y) = false := by simpa using hl
                        clear hsc hur HPI hl
                        go_wp2_with fail
                        go_quiet ((go_at_call 57; exact Calls.quiet_of_same (lessU_any _ _ _)))
                        go_wp2_with fail
                        go_meet
                        exact ⟨by rw [HST.out], HUR.out.draws _⟩
                    · have hlez : ¬ (i : Int) ≤ (ja : Int) := by omega
                      have HST : Hid (i = i2) := by show _ = _; rw [← HSC.out, up_stop (.inl hle)]
                      clear hsc hur
                      go_wp2_with fail
                      go_quiet (fail)
                      go_wp2_with fail
                      go_meet
                      exact ⟨by rw [HST.out], HUR.out.draws _⟩
                case rest =>
                  obtain ⟨rfl, hur⟩ := hcut
                  have HU2 : Hid _ := hur
                  clear hur
                  go_upto_block 8 with fail
                  go_cut [11] (fun vj wx => vj = .int .i64 (j2 : Int) ∧ URow w wx g c f)
                  case first =>
                    go_wp2_with fail
                    go_loopw [11] (fun vj wx => ∃ (j : Nat) (z : Int), z = (j : Int) ∧ a ≤ j ∧ j ≤ ja ∧ vj = .int .i64 z ∧ scanDown R f i2 j = j2 ∧ URow w wx g c f) (fun vj _ => (intOf vj + 1).toNat)
                    case atStart => exact ⟨ja, (ja : Int), rfl, by omega, Nat.le_refl _, by first | rfl | go_num, HJ2.out.symm, HU2.out⟩
                    case round =>
                      obtain ⟨j, z, hz, haj, hjh, rfl, hsc, hur⟩ := hrel
                      have HSC : Hid _ := hsc
                      have HUR : Hid _ := hur
                      by_cases hle : i2 ≤ j
                      · obtain ⟨m, rfl⟩ : ∃ m, j = m + 1 := ⟨j - 1, by omega⟩
                        subst hz
                        have hlez : (i2 : Int) ≤ ((m + 1 : Nat) : Int) := by omega
                        have hlez2 : (i2 : Int) ≤ (m : Int) + 1 := by omega
                        have hin : ((m + 1 : Nat) : Int) < (d.size : Int) := by omega
                        have hin2 : (m : Int) + 1 < (d.size : Int) := by omega
                        have ci := hur.cell (show m + 1 < f.size by have := HES.out; omega)
                        have ca := hur.cell (show a < f.size by have := HES.out; omega)
                        have HPI : Hid (R f[m + 1]! = (!decide (f[m + 1]! < f[a]!))) := by show _ = _; rw [HRd.out]; rfl
                        by_cases hl : f[m + 1]! < f[a]!
                        · have HST : Hid (m + 1 = j2) := by show _ = _; rw [← HSC.out, down_stop (.inl (by omega)) (.inr (by rw [HPI.out]; simpa using hl))]
                          generalize f[m + 1]! = x at ci hl
                          generalize f[a]! = y at ca hl
                          have hlb : decide (x < y) = true := by simpa using hl
                          clear hsc hur HPI hl
                          go_wp2_with fail
                          go_quiet ((go_at_call 57; exact Calls.quiet_of_same (lessU_any _ _ _)))
                          go_wp2_with fail
                          go_meet
                          exact ⟨by rw [← HST.out], HUR.out.draws _⟩
                        · have HST : Hid (scanDown R f i2 m = j2) := by show _ = _; rw [← HSC.out, down_step (by omega) (by rw [HPI.out]; simpa using hl)]
                          generalize f[m + 1]! = x at ci hl
                          generalize f[a]! = y at ca hl
                          have hlb : decide (x < y) = false := by simpa using hl
                          clear hsc hur HPI hl
                          go_wp2_with fail
                          go_quiet ((go_at_call 57; exact Calls.quiet_of_same (lessU_any _ _ _)))
                          go_wp2_with fail
                          exact ⟨⟨m, (m : Int), rfl, by omega, by omega, by first | rfl | go_num, HST.out, HUR.out.draws _⟩, by simp [intOf]; omega⟩
                      · subst hz
                        have hlez : ¬ (i2 : Int) ≤ (j : Int) := by omega
                        have HST : Hid (j = j2) := by show _ = _; rw [← HSC.out, down_stop (.inr (by omega)) (.inl hle)]
                        clear hsc hur
                        go_wp2_with fail
                        go_quiet (fail)
                        go_wp2_with fail
                        go_meet
                        exact ⟨by rw [HST.out], HUR.out.draws _⟩
                  case rest =>
                    obtain ⟨rfl, hur⟩ := hcut
                    have HUS : Hid _ := hur
                    clear hur
                    by_cases hij : j2 < i2
                    · have hijz : (j2 : Int) < (i2 : Int) := by omega
                      have HRE : Hid ((j2, f) = (r1, r2)) := by show _ = _; rw [← HFE.out, HLQ.out, if_pos hij]
                      go_wp2_with fail
                      go_meet
                      have hre := HRE.out
                      cases hre
                      exact ⟨rfl, by omega, by omega, HES.out, HUS.out, by omega⟩
                    · have hijz : ¬ (j2 : Int) < (i2 : Int) := by omega
                      have HRE : Hid (partLoop ltInt a (i2 + 1) (j2 - 1) (swp f i2 j2) = (r1, r2)) := by show _ = _; rw [← HFE.out, HLQ.out, if_neg hij]
                      go_wp2_with fail
                      have hiN : (i2 : Int) < (d.size : Int) := by have := HES.out; omega
                      have hjN : (j2 : Int) < (d.size : Int) := by have := HES.out; omega
                      have cI := HUS.out.cell (show i2 < f.size by have := HES.out; omega)
                      have cJ := HUS.out.cell (show j2 < f.size by have := HES.out; omega)
                      have fI := HUS.out.frozen i2
                      have fJ := HUS.out.frozen j2
                      have HSW : Hid (∀ q, URow w (((wc.drewN q).setCell ⟨g, i2, none⟩ (.int .u64 f[j2]!)).setCell ⟨g, j2, none⟩ (.int .u64 f[i2]!)) g c (swp f i2 j2)) := fun q => (HUS.out.draws q).swap (by have := HES.out; omega) (by have := HES.out; omega)
                      go_cut [135] (fun _ wx => URow w wx g c (swp f i2 j2))
                      case first =>
                        by_cases hEq : j2 = i2
                        · subst hEq
                          generalize f[j2]! = x at cI cJ HSW
                          go_region
                          all_goals
                            go_wp2_with fail
                            go_meet
                            exact HSW.out _
                        · have hEq2 : ¬ i2 = j2 := fun h => hEq h.symm
                          generalize f[j2]! = x at cJ HSW
                          generalize f[i2]! = y at cI HSW
                          go_region
                          all_goals
                            go_wp2_with fail
                            go_meet
                            exact HSW.out _
                      case rest =>
                        have HUG : Hid _ := hcut
                        have HGS : Hid ((swp f i2 j2).size = d.size) := by show _ = _; rw [swp_size]; exact HES.out
                        clear hcut HUS cI cJ fI fJ HSW hiN hjN
                        go_wp2_with fail
                        exact ⟨⟨i2 + 1, j2 - 1, (j2 : Int) - 1, swp f i2 j2, by omega, by omega, by omega, by omega, by omega, by go_num, rfl, HGS.out, HRE.out, HUG.out⟩, by simp [intOf]; omega⟩
            case rest =>
              obtain ⟨rfl, hr1a, _, hr2s, hur, hr1h⟩ := hcut
              have HES2 : Hid _ := hr2s
              have HUS : Hid _ := hur
              clear hur hr2s
              go_wp2_with fail
              have hiN : (r1 : Int) < (d.size : Int) := by have := HES2.out; omega
              have hjN : (a : Int) < (d.size : Int) := by have := HES2.out; omega
              have cI := HUS.out.cell (show r1 < r2.size by have := HES2.out; omega)
              have cJ := HUS.out.cell (show a < r2.size by have := HES2.out; omega)
              have fI := HUS.out.frozen r1
              have fJ := HUS.out.frozen a
              have HSW : Hid (∀ q, URow w (((wc.drewN q).setCell ⟨g, r1, none⟩ (.int .u64 r2[a]!)).setCell ⟨g, a, none⟩ (.int .u64 r2[r1]!)) g c (swp r2 r1 a)) := fun q => (HUS.out.draws q).swap (by have := HES2.out; omega) (by have := HES2.out; omega)
              go_cut [153] (fun _ wx => URow w wx g c (swp r2 r1 a))
              case first =>
                by_cases hEq : a = r1
                · subst hEq
                  generalize r2[a]! = x at cI cJ HSW
                  go_region
                  all_goals
                    go_wp2_with fail
                    go_meet
                    exact HSW.out _
                · have hEq2 : ¬ r1 = a := fun h => hEq h.symm
                  generalize r2[a]! = x at cJ HSW
                  generalize r2[r1]! = y at cI HSW
                  go_region
                  all_goals
                    go_wp2_with fail
                    go_meet
                    exact HSW.out _
              case rest =>
                have HUG : Hid _ := hcut
                clear hcut HUS cI cJ fI fJ HSW hiN hjN
                go_wp2_with fail
                go_ret2
                exact ⟨by rw [HPE.out]; rfl, by rw [HPE.out]; exact HUG.out⟩
end Go.Proofs.Ytcfmcakdgamdmaa
