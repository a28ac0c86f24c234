/- breakPatterns: it only turns places round. -/
import Derived.Test.YtcfmcakdgamdmaaHeap2
import Derived.Deep.DeepCutAuto
import Derived.Laws.BitsAllLaws
import Derived.Laws.Closers25b
namespace Go.Proofs.Ytcfmcakdgamdmaa
open Go.RowKit Go.Sort

/-- The random number's block. -/
structure Rnd (w0 w : World) (s : Nat) : Prop where
  is : ∃ z : Int, 0 ≤ z ∧ z ≤ 18446744073709551615 ∧ w.heap[s]? = some (.cells #[.int .u64 z] 96 (0, 0))
  kept : Kept (fun i => i = s) w0 w
theorem Rnd.set {w0 w : World} {s : Nat} (h : Rnd w0 w s) (q : Nat) (z : Int) (h0 : 0 ≤ z) (h1 : z ≤ 18446744073709551615) : Rnd w0 ((w.drewN q).setCell ⟨s, 0, none⟩ (.int .u64 z)) s := by
  obtain ⟨y, _, _, hy⟩ := h.is
  refine ⟨⟨z, h0, h1, ?_⟩, (h.kept.draws q).trans (setCell_kept _) (fun _ _ h => h)⟩
  have := heap_set_same (w := w.drewN q) (i := 0) (.int .u64 z) hy
  simpa using this
structure NextPost (w : World) (s : Nat) (e : Ending) (w' : World) : Prop where
  is : ∃ z : Int, e = .returned (.int .u64 z) ∧ 0 ≤ z ∧ z ≤ 18446744073709551615 ∧ Rnd w w' s
set_option maxHeartbeats 1600000 in
set_option maxRecDepth 100000 in
theorem next_any {w : World} {s : Nat} (h : Rnd w w s) : Calls Try.prog 68 #[.pointer (some ⟨s, 0, none⟩)] w fun e w' => NextPost w s e w' := by
  have HR : Hid _ := h
  obtain ⟨z, _, _, hz⟩ := h.is
  have c0 : w.cell? ⟨s, 0, none⟩ = some (.int .u64 z) := row_cell hz 0
  have f0 : w.frozen? ⟨s, 0, none⟩ = false := row_frozen hz 0
  clear h hz
  go_enter Try.func68, Try.ntmps68
  go_wp2_with fail
  go_cut [3] (fun _ wx => Rnd w wx s)
  case first =>
    go_region
    all_goals
      go_wp2_with fail
      go_meet
      exact HR.out.set 1 _ (bits_lo_u64 _ _ _) (bits_hi_u64 _ _ _)
  case rest =>
    have HR1 : Hid _ := hcut
    obtain ⟨z1, _, _, hz1⟩ := hcut.is
    have c1 : wc.cell? ⟨s, 0, none⟩ = some (.int .u64 z1) := row_cell hz1 0
    have f1 : wc.frozen? ⟨s, 0, none⟩ = false := row_frozen hz1 0
    clear hcut hz1 c0 f0
    go_wp2_with fail
    go_cut [12] (fun _ wx => Rnd w wx s)
    case first =>
      go_region
      all_goals
        go_wp2_with fail
        go_meet
        exact HR1.out.set 1 _ (bits_lo_u64 _ _ _) (bits_hi_u64 _ _ _)
    case rest =>
      have HR2 : Hid _ := hcut
      obtain ⟨z2, _, _, hz2⟩ := hcut.is
      have c2 : wc.cell? ⟨s, 0, none⟩ = some (.int .u64 z2) := row_cell hz2 0
      have f2 : wc.frozen? ⟨s, 0, none⟩ = false := row_frozen hz2 0
      clear hcut hz2 c1 f1
      go_wp2_with fail
      go_cut [21] (fun _ wx => Rnd w wx s)
      case first =>
        go_region
        all_goals
          go_wp2_with fail
          go_meet
          exact HR2.out.set 1 _ (bits_lo_u64 _ _ _) (bits_hi_u64 _ _ _)
      case rest =>
        have HR3 : Hid _ := hcut
        obtain ⟨z3, hz30, hz31, hz3⟩ := hcut.is
        have c3 : wc.cell? ⟨s, 0, none⟩ = some (.int .u64 z3) := row_cell hz3 0
        clear hcut hz3 c2 f2
        go_wp2_with fail
        go_ret
        exact ⟨z3, rfl, hz30, hz31, HR3.out⟩
theorem bitLen_two (x : Nat) : 0 < x → x < 18446744073709551616 → x < 2 ^ Lib.bitLen x ∧ 2 ^ Lib.bitLen x ≤ 2 * x := by
  induction x using Nat.strongRecOn with
  | _ x ih =>
    intro h0 h1
    rw [Lib.bitLen_half x (by omega) (by omega)]
    by_cases h : x / 2 = 0
    · have : x = 1 := by omega
      subst this
      decide
    · obtain ⟨h2, h3⟩ := ih (x / 2) (by omega) (by omega) (by omega)
      rw [Nat.pow_add]
      omega
theorem bitLen_small (x : Nat) (h0 : 0 < x) (h : x ≤ 140737488355328) : Lib.bitLen x ≤ 48 := by
  obtain ⟨_, h2⟩ := bitLen_two x h0 (by omega)
  rcases Nat.lt_or_ge (Lib.bitLen x) 49 with h3 | h3
  · omega
  · have h4 : 2 ^ 49 ≤ 2 ^ Lib.bitLen x := Nat.pow_le_pow_right (by decide) h3
    have h5 : (2 : Nat) ^ 49 = 562949953421312 := by decide
    omega
set_option maxHeartbeats 800000 in
theorem power_any (w : World) (l : Nat) (h0 : 0 < l) (h : l ≤ 140737488355328) : Calls Try.prog 67 #[.int .i64 (l : Int)] w fun e w' => e = .returned (.int .u64 ((2 ^ Lib.bitLen l : Nat) : Int)) ∧ w' = w := by
  have HL := len_any w l (by omega)
  have hb := bitLen_small l h0 h
  generalize Lib.bitLen l = n at HL hb
  have hnz : (n : Int) < 64 := by omega
  go_enter Try.func67, Try.ntmps67
  go_wp2_with (go_at_call 44; refine HL.mono ?_; rintro e w' ⟨rfl, hw'⟩; obtain rfl := hw'.symm)
  go_ret
  refine ⟨?_, rfl⟩
  show Ending.returned (.int .u64 (IntKind.u64.wrap ((2 : Int) ^ n))) = _
  have h1 : (2 : Nat) ^ n ≤ 2 ^ 48 := Nat.pow_le_pow_right (by decide) hb
  have h2 : (2 : Nat) ^ 48 = 281474976710656 := by decide
  have h3 : ((2 ^ n : Nat) : Int) = (2 : Int) ^ n := by simp
  rw [← h3]
  generalize (2 : Nat) ^ n = k at h1
  rw [h2] at h1
  have h4 : IntKind.u64.wrap (k : Int) = (k : Int) := by
    rw [IntKind.wrap_u64]
    omega
  rw [h4]
theorem URow.next {w0 w w' : World} {g c s : Nat} {d : Array Int} (h : URow w0 w g c d) (hr : Rnd w w' s) (hs : w0.heap.size ≤ s) (hg : g < w0.heap.size) : URow w0 w' g c d := by
  obtain ⟨cur, h1, h2⟩ := h.is
  refine ⟨⟨cur, ?_, h2⟩, h.len, h.kept.trans hr.kept (fun i hi e => by omega)⟩
  rw [hr.kept.block g h.lt (by omega)]
  exact h1
theorem Rnd.swap {w w' : World} {g s : Nat} (h : Rnd w w s) (hk : Kept (fun i => i = g) w w') (hs : s ≠ g) : Rnd w' w' s := by
  obtain ⟨z, h0, h1, h2⟩ := h.is
  refine ⟨⟨z, h0, h1, ?_⟩, Kept.refl _ _⟩
  rw [hk.block s (Array.getElem?_eq_some_iff.1 h2).1 hs]
  exact h2
theorem and_le {z : Int} (h0 : 0 ≤ z) (h1 : z ≤ 18446744073709551615) (m : Nat) (hm : m < 18446744073709551616) : ∃ o : Nat, bits .and .u64 z (m : Int) = (o : Int) ∧ o ≤ m := by
  obtain ⟨n, rfl⟩ : ∃ n : Nat, z = (n : Int) := ⟨z.toNat, by omega⟩
  refine ⟨n &&& m, u64_and_nat n m (by omega) hm, Nat.and_le_right⟩
/-- What breakPatterns leaves. -/
structure BreakPost (w : World) (g c a b : Nat) (d : Array Int) (e : Ending) (w' : World) : Prop where
  is : ∃ d', e = .returned (.tuple #[]) ∧ PermIn a b d d' ∧ URow w w' g c d'
set_option maxHeartbeats 3200000 in
set_option maxRecDepth 100000 in
theorem break_any {w : World} {g c cc a b : Nat} {d : Array Int} (h : URow w w g c d) (hab : a + 12 < b) (hb : b ≤ d.size) (hs : d.size ≤ 140737488355328) :
    Calls Try.prog 53 #[.slice (some ⟨g, 0, none⟩) d.size cc, .int .i64 (a : Int), .int .i64 (b : Int)] w fun e w' => BreakPost w g c a b d e w' := by
  obtain ⟨l, hl⟩ : ∃ l, l = b - a := ⟨_, rfl⟩
  have hlz : (b : Int) - (a : Int) = (l : Int) := by omega
  obtain ⟨t, ht⟩ : ∃ t, t = l / 4 := ⟨_, rfl⟩
  have htz : (l : Int) / 4 = (t : Int) := by omega
  have hl8 : (8 : Int) ≤ (l : Int) := by omega
  obtain ⟨j, hj⟩ : ∃ j, j = a + t * 2 := ⟨_, rfl⟩
  have hjz : (a : Int) + (t : Int) * 2 = (j : Int) := by omega
  have hjb : j + 1 < b := by omega
  have hja : a + 1 ≤ j := by omega
  obtain ⟨M, hM⟩ : ∃ M, M = 2 ^ Lib.bitLen l := ⟨_, rfl⟩
  obtain ⟨hm1, hm2⟩ := bitLen_two l (by omega) (by omega)
  rw [← hM] at hm1 hm2
  obtain ⟨m, hm⟩ : ∃ m, m = M - 1 := ⟨_, rfl⟩
  have hMz : (M : Int) - 1 = (m : Int) := by omega
  have hm3 : m < 2 * l := by omega
  clear hm
  have hgl := h.lt
  obtain ⟨wa, hwa⟩ : ∃ wa, wa = w.alloc (.cells #[.int .u64 (l : Int)] 96) := ⟨_, rfl⟩
  have hba : Below w.heap.size w wa := by rw [hwa]; exact below_new w _
  have HRA : Hid (Rnd wa wa w.heap.size) := ⟨⟨l, by omega, by omega, by rw [hwa]; exact heap_alloc_last w _⟩, Kept.refl _ _⟩
  have HUA : Hid (URow w wa g c d) := h.below hba
  have HPO := power_any wa l (by omega) (by omega)
  rw [← hM] at HPO
  clear h hl ht hj hM hba
  go_enter Try.func53, Try.ntmps53
  go_wp2_with fail
  rw [← hwa]
  clear hwa
  refine HPO.mono ?_
  rintro e w1 ⟨rfl, hw1⟩
  obtain rfl := hw1.symm
  clear HPO
  go_wp2_with fail
  go_loopw [9, 10] (fun vi _ wx => ∃ (x : Nat) (z : Int) (e : Array Int), z = (x : Int) ∧ j ≤ x + 1 ∧ x ≤ j + 2 ∧ vi = .int .i64 z ∧ e.size = d.size ∧ PermIn a b d e ∧ URow w wx g c e ∧ Rnd wx wx w.heap.size) (fun vi _ _ => ((j : Int) + 3 - intOf vi).toNat)
  case atStart => exact ⟨j - 1, (j : Int) - 1, d, by omega, by omega, by omega, rfl, rfl, permIn_refl d a b, HUA.out, HRA.out⟩
  case round =>
    obtain ⟨x, z, e, hz, hx1, hx2, rfl, hes, hpm, hur, hrn⟩ := hrel
    subst hz
    have HES : Hid _ := hes
    have HPM : Hid _ := hpm
    have HUR : Hid _ := hur
    have HRN : Hid _ := hrn
    by_cases hle : x ≤ j + 1
    · have hlez : (x : Int) ≤ (j : Int) + 1 := by omega
      clear hes hpm hur hrn
      go_wp2_with fail
      refine (next_any HRN.out).mono ?_
      rintro r w2 ⟨z2, rfl, h20, h21, hr2⟩
      have HU2 : Hid (URow w w2 g c e) := HUR.out.next hr2 (Nat.le_refl _) hgl
      have HR2 : Hid (Rnd w2 w2 w.heap.size) := ⟨hr2.is, Kept.refl _ _⟩
      obtain ⟨o, ho, hoM⟩ := and_le h20 h21 m (by omega)
      clear hr2 h20 h21
      have hoz : (o : Int) < 2 * (l : Int) := by omega
      by_cases hol : o < l
      · have holz : ¬ (l : Int) ≤ (o : Int) := by omega
        obtain ⟨k, hk⟩ : ∃ k, k = a + o := ⟨_, rfl⟩
        have hkz : (a : Int) + (o : Int) = (k : Int) := by omega
        have hkb : k < b := by omega
        have hka : a ≤ k := by omega
        clear hk hol
        go_wp2_with fail
        have hiN : (x : Int) < (d.size : Int) := by omega
        have hjN : (k : Int) < (d.size : Int) := by omega
        have hxe : x < e.size := by have := HES.out; omega
        have hke : k < e.size := by have := HES.out; omega
        have cI := HU2.out.cell hxe
        have cJ := HU2.out.cell hke
        have fI := HU2.out.frozen x
        have fJ := HU2.out.frozen k
        have HSW : Hid (∀ q, URow w (((w2.drewN q).setCell ⟨g, x, none⟩ (.int .u64 e[k]!)).setCell ⟨g, k, none⟩ (.int .u64 e[x]!)) g c (swp e x k) ∧ Rnd (((w2.drewN q).setCell ⟨g, x, none⟩ (.int .u64 e[k]!)).setCell ⟨g, k, none⟩ (.int .u64 e[x]!)) (((w2.drewN q).setCell ⟨g, x, none⟩ (.int .u64 e[k]!)).setCell ⟨g, k, none⟩ (.int .u64 e[x]!)) w.heap.size) := fun q => ⟨(HU2.out.draws q).swap hxe hke, HR2.out.swap (((Kept.draws (Kept.refl _ _) q).trans (setCell_kept _) (fun _ _ h => h)).trans (setCell_kept _) (fun _ _ h => h)) (by omega)⟩
        clear hxe hke
        have HFIN : Hid (∀ wx, (URow w wx g c (swp e x k) ∧ Rnd wx wx w.heap.size) → ∃ (y : Nat) (z : Int) (f : Array Int), z = (y : Int) ∧ j ≤ y + 1 ∧ y ≤ j + 2 ∧ Value.int .i64 ((x : Int) + 1) = .int .i64 z ∧ f.size = d.size ∧ PermIn a b d f ∧ URow w wx g c f ∧ Rnd wx wx w.heap.size) := fun wx h => ⟨x + 1, (x : Int) + 1, swp e x k, by omega, by omega, by omega, rfl, by rw [swp_size]; exact HES.out, permIn_trans _ _ _ _ _ HPM.out (swp_permIn e a b x k (by omega) (by omega) (by omega) (by omega) (by have := HES.out; omega)), h.1, h.2⟩
        have hme : ((j : Int) + 3 - ((x : Int) + 1)).toNat < ((j : Int) + 3 - (x : Int)).toNat := by omega
        have HME : Hid _ := hme
        clear hme
        by_cases hEq : k = x
        · subst hEq
          generalize e[k]! = y at cI cJ HSW
          go_region
          all_goals
            go_wp2_with fail
            exact ⟨HFIN.out _ (HSW.out _), HME.out⟩
        · have hEq2 : ¬ x = k := fun h => hEq h.symm
          generalize e[k]! = y1 at cJ HSW
          generalize e[x]! = y2 at cI HSW
          go_region
          all_goals
            go_wp2_with fail
            exact ⟨HFIN.out _ (HSW.out _), HME.out⟩
      · have holz : (l : Int) ≤ (o : Int) := by omega
        obtain ⟨o2, ho2⟩ : ∃ o2, o2 = o - l := ⟨_, rfl⟩
        have ho2z : (o : Int) - (l : Int) = (o2 : Int) := by omega
        obtain ⟨k, hk⟩ : ∃ k, k = a + o2 := ⟨_, rfl⟩
        have hkz : (a : Int) + (o2 : Int) = (k : Int) := by omega
        have hkb : k < b := by omega
        have hka : a ≤ k := by omega
        clear hk ho2
        go_wp2_with fail
        have hiN : (x : Int) < (d.size : Int) := by omega
        have hjN : (k : Int) < (d.size : Int) := by omega
        have hxe : x < e.size := by have := HES.out; omega
        have hke : k < e.size := by have := HES.out; omega
        have cI := HU2.out.cell hxe
        have cJ := HU2.out.cell hke
        have fI := HU2.out.frozen x
        have fJ := HU2.out.frozen k
        have HSW : Hid (∀ q, URow w (((w2.drewN q).setCell ⟨g, x, none⟩ (.int .u64 e[k]!)).setCell ⟨g, k, none⟩ (.int .u64 e[x]!)) g c (swp e x k) ∧ Rnd (((w2.drewN q).setCell ⟨g, x, none⟩ (.int .u64 e[k]!)).setCell ⟨g, k, none⟩ (.int .u64 e[x]!)) (((w2.drewN q).setCell ⟨g, x, none⟩ (.int .u64 e[k]!)).setCell ⟨g, k, none⟩ (.int .u64 e[x]!)) w.heap.size) := fun q => ⟨(HU2.out.draws q).swap hxe hke, HR2.out.swap (((Kept.draws (Kept.refl _ _) q).trans (setCell_kept _) (fun _ _ h => h)).trans (setCell_kept _) (fun _ _ h => h)) (by omega)⟩
        clear hxe hke
        have HFIN : Hid (∀ wx, (URow w wx g c (swp e x k) ∧ Rnd wx wx w.heap.size) → ∃ (y : Nat) (z : Int) (f : Array Int), z = (y : Int) ∧ j ≤ y + 1 ∧ y ≤ j + 2 ∧ Value.int .i64 ((x : Int) + 1) = .int .i64 z ∧ f.size = d.size ∧ PermIn a b d f ∧ URow w wx g c f ∧ Rnd wx wx w.heap.size) := fun wx h => ⟨x + 1, (x : Int) + 1, swp e x k, by omega, by omega, by omega, rfl, by rw [swp_size]; exact HES.out, permIn_trans _ _ _ _ _ HPM.out (swp_permIn e a b x k (by omega) (by omega) (by omega) (by omega) (by have := HES.out; omega)), h.1, h.2⟩
        have hme : ((j : Int) + 3 - ((x : Int) + 1)).toNat < ((j : Int) + 3 - (x : Int)).toNat := by omega
        have HME : Hid _ := hme
        clear hme
        by_cases hEq : k = x
        · subst hEq
          generalize e[k]! = y at cI cJ HSW
          go_region
          all_goals
            go_wp2_with fail
            exact ⟨HFIN.out _ (HSW.out _), HME.out⟩
        · have hEq2 : ¬ x = k := fun h => hEq h.symm
          generalize e[k]! = y1 at cJ HSW
          generalize e[x]! = y2 at cI HSW
          go_region
          all_goals
            go_wp2_with fail
            exact ⟨HFIN.out _ (HSW.out _), HME.out⟩
    · have hlez : ¬ (x : Int) ≤ (j : Int) + 1 := by omega
      clear hes hpm hur hrn
      go_wp2_with fail
      go_end0
      exact ⟨e, rfl, HPM.out, HUR.out⟩
end Go.Proofs.Ytcfmcakdgamdmaa
