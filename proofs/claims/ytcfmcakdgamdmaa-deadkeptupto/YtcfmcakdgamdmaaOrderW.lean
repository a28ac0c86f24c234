/- DeadOrder's walk. -/
import Derived.Test.YtcfmcakdgamdmaaFilled
namespace Go.Proofs.Ytcfmcakdgamdmaa
open Go.RowKit

set_option maxHeartbeats 6400000 in
set_option maxRecDepth 100000 in
theorem deadOrder_any {w : World} {vx : Value} {X : List Lf} (hX : LivesAt w vx X) (hs : X.length * 24 ≤ 140737488355328) :
    Calls Try.prog 5 #[vx] w fun e w' => e = .returned (.bool true) ∧ Below w.heap.size w w' := by
  obtain ⟨a, c, rfl⟩ := hX.form
  have HX : Hid _ := hX
  have hfl := fill_length X
  have hfe := fill_lengths X
  obtain ⟨ht2, ht1⟩ := fill_turned X
  have hok := fill_ok X
  have hpm := fill_perm X
  have HCO : Hid (∀ x ∈ (fillL X).2, (fillL X).1.countP (fun y => decide (y = x)) = 1) := fun x hx => count_one X hx
  clear hX
  go_enter Try.func5, Try.ntmps5
  go_wp2_with fail
  refine (awake_any w).mono ?_
  rintro e w1 ⟨rfl, hb1⟩
  have HB1 : Hid _ := hb1
  clear hb1
  go_wp2_with fail
  refine (filled_any (HX.out.here HB1.out) hs).mono ?_
  rintro e w2 ⟨b, v, u, rfl, hl2, hu2, hb2, hap2⟩
  have HB2 : Hid (Below w.heap.size w w2) := Below.trans HB1.out (hb2.mono (Below.size HB1.out))
  have HL2 : Hid _ := hl2
  have HU2 : Hid _ := hu2
  obtain ⟨au, cu, e1⟩ := own_slice hu2
  subst e1
  clear hl2 hu2 hb2 hap2
  go_wp2_with fail
  refine (lives_any HL2.out).mono ?_
  rintro e w3 ⟨v3, rfl, hn3, hb3⟩
  have HN3 : Hid _ := hn3
  have HU3 : Hid _ := own_here HU2.out hb3
  have HL3 : Hid _ := HL2.out.below hb3
  have HB3 : Hid (Below w.heap.size w w3) := Below.trans HB2.out (hb3.mono (Below.size HB2.out))
  obtain ⟨a3, c3, e3⟩ := own_slice hn3
  subst e3
  clear hn3 hb3
  have HT2 : Hid _ := ht2
  have HT1 : Hid _ := ht1
  have HOK : Hid _ := hok
  have HPM : Hid _ := hpm
  have HFE : Hid _ := hfe
  have HFL : Hid _ := hfl
  clear ht2 ht1 hok hpm
  generalize hI : (fillL X).2 = I at *
  generalize hD : (fillL X).1 = D at *
  clear hI hD hfe
  have hI47 : I.length ≤ 5864062014805 := by omega
  go_wp2_with fail
  go_loopw [7, 8] (fun t i wx => ∃ (k : Nat) (z : Int), z = (k : Int) - 1 ∧ k ≤ I.length ∧ i = .int .i64 z ∧ NewL w3.heap.size wx t (I.drop k).reverse ∧ Below w3.heap.size w3 wx) (fun _ i _ => (intOf i + 1).toNat)
  case atStart => exact ⟨I.length, _, rfl, Nat.le_refl _, rfl, by rw [List.drop_length]; exact World.ownsRow_nil _ _ _ _, Below.refl _ _⟩
  case round =>
    obtain ⟨k, z, hz, hk, rfl, ht, hb⟩ := hrel
    have HT : Hid _ := ht
    have HB : Hid _ := hb
    clear ht hb
    by_cases hlt : 0 < k
    · obtain ⟨m, rfl⟩ : ∃ m, k = m + 1 := ⟨k - 1, by omega⟩
      obtain rfl : z = (m : Int) := by omega
      have hmz : (m : Int) < (I.length : Int) := by omega
      obtain ⟨y, hy⟩ : ∃ y, I[m]? = some y := ⟨_, List.getElem?_eq_getElem (by omega)⟩
      obtain ⟨g, off, rfl, hg, k0, k1, k2⟩ := lives_cell (RowAt.own (own_here HU3.out HB.out)) hy
      have HDR : Hid ((I.drop m).reverse = (I.drop (m + 1)).reverse ++ [y]) := by
        show _ = _
        have h1 : m < I.length := by omega
        have h2 : I[m] = y := (List.getElem?_eq_some_iff.1 hy).2
        rw [List.drop_eq_getElem_cons h1, List.reverse_cons, h2]
      have HDL : Hid ((I.drop (m + 1)).reverse.length + 1 ≤ I.length) := by show _ ≤ _; rw [List.length_reverse, List.length_drop]; omega
      have HUA : Hid (NewL w3.heap.size (wr.alloc (.cells #[.int .i64 y.p, .int .u64 y.b, .int .u64 y.d] 34)) u7 (I.drop (m + 1)).reverse) := own_here HT.out (below_new wr _)
      have HBA : Hid (Below w3.heap.size w3 (wr.alloc (.cells #[.int .i64 y.p, .int .u64 y.b, .int .u64 y.d] 34))) := (HB.out.alloc (Below.size HB.out) _)
      clear hy hz
      go_wp2_with (at_builtin; refine wpList_append_life rfl _ _ rfl w3.heap.size u7 (I.drop (m + 1)).reverse y rfl HUA.out wr.heap.size rfl (heap_alloc_last wr _) (by have := HDL.out; omega) (Below.size HBA.out) ?_; intro v4 w4 hv4 _ hk4; have HV4 : Hid _ := hv4; have HB4 : Hid (Below w3.heap.size w3 w4) := Below.trans HBA.out hk4.low; clear hv4 hk4)
      exact ⟨⟨m, (m : Int) - 1, rfl, by omega, rfl, by rw [HDR.out]; exact HV4.out, HB4.out⟩, by simp [intOf]⟩
    · obtain rfl : k = 0 := by omega
      obtain rfl : z = -1 := by omega
      have HT0 : Hid (NewL w3.heap.size wr u7 I.reverse) := by
        have := HT.out
        rw [List.drop_zero] at this
        exact this
      obtain ⟨a7, c7, e7⟩ := own_slice HT0.out
      rw [List.length_reverse] at e7
      subst e7
      have hlz : (D.length : Int) = (I.length : Int) := by have := HFE.out; omega
      have hlb : ((D.length : Int) != (I.length : Int)) = false := by simp; omega
      have hlr : ((I.length : Int) != (I.length : Int)) = false := by simp
      have HFI := filled_any (RowAt.own HT0.out) (by rw [List.length_reverse]; omega)
      have HBW : Hid (Below w.heap.size w wr) := Below.trans HB3.out (Below.mono HB.out (Below.size HB3.out))
      clear hz hk hlt HT hfl
      go_wp2_with fail
      refine HFI.mono ?_
      rintro e w5 ⟨b5, v5, u5', rfl, hl5, hu5, hb5, _⟩
      rw [HT1.out] at hl5
      rw [HT2.out] at hu5
      obtain ⟨a5, c5, e5⟩ := own_slice hu5
      rw [List.length_reverse] at e5
      subst e5
      have HL5 : Hid _ := hl5
      have HB5 : Hid (Below w.heap.size w w5) := Below.trans HBW.out (hb5.mono (Below.size HBW.out))
      have HB35 : Hid (Below w3.heap.size w3 w5) := Below.trans HB.out (hb5.mono (Below.size HB.out))
      have HCT := count_any (HL3.out.below HB35.out)
      clear hl5 hu5 hb5 HFI
      go_wp2_with (go_at_call 12; refine HCT.mono ?_; rintro e w6 ⟨rfl, hw6⟩; obtain rfl := hw6.symm)
      have HN5 : Hid (LivesAt w5 (.slice a3 D.length c3) D) := (RowAt.own HN3.out).here HB35.out
      have HI5 : Hid (LivesAt w5 (.slice au I.length cu) I) := (RowAt.own HU3.out).here HB35.out
      have hD47 : D.length ≤ 5864062014805 := by omega
      clear hlz hlb hlr
      go_loopw [11] (fun i wx => ∃ k : Nat, 1 ≤ k ∧ k ≤ D.length + 1 ∧ i = .int .i64 k ∧ Below w5.heap.size w5 wx) (fun i _ => D.length + 1 - (intOf i).toNat)
      case atStart => exact ⟨1, Nat.le_refl _, by omega, rfl, Below.refl _ _⟩
      case round =>
        obtain ⟨k, hk1, hk2, rfl, hb⟩ := hrel
        have HB6 : Hid _ := hb
        by_cases hlt : k < D.length
        · obtain ⟨m, rfl⟩ : ∃ m, k = m + 1 := ⟨k - 1, by omega⟩
          have hmz : ((m + 1 : Nat) : Int) < (D.length : Int) := by omega
          have hm1 : ((m + 1 : Nat) : Int) - 1 = (m : Int) := by omega
          have hm2 : (m : Int) < (D.length : Int) := by omega
          have hm3 : (m : Int) + 1 < (D.length : Int) := by omega
          obtain ⟨y, hy⟩ : ∃ y, D[m]? = some y := ⟨_, List.getElem?_eq_getElem (by omega)⟩
          obtain ⟨z, hz⟩ : ∃ z, D[m + 1]? = some z := ⟨_, List.getElem?_eq_getElem hlt⟩
          have hah := HOK.out.at (Nat.lt_succ_self m) hy hz
          obtain ⟨g, off, rfl, hg, k0, k1, k2⟩ := lives_cell (HN5.out.here hb) hy
          obtain ⟨g', off', e', _, j0, j1, j2⟩ := lives_cell (HN5.out.here hb) hz
          cases e'
          have n0 := ((below_new wr (.cells #[.int .i64 y.p, .int .u64 y.b, .int .u64 y.d] 34)).cell (p := ⟨g, off + (m + 1) * 3, none⟩) hg).trans j0
          have n1 := ((below_new wr (.cells #[.int .i64 y.p, .int .u64 y.b, .int .u64 y.d] 34)).cell (p := ⟨g, off + (m + 1) * 3 + 1, none⟩) hg).trans j1
          have n2 := ((below_new wr (.cells #[.int .i64 y.p, .int .u64 y.b, .int .u64 y.d] 34)).cell (p := ⟨g, off + (m + 1) * 3 + 2, none⟩) hg).trans j2
          have HBE : Hid (Below w5.heap.size w5 ((wr.alloc (.cells #[.int .i64 y.p, .int .u64 y.b, .int .u64 y.d] 34)).alloc (.cells #[.int .i64 z.p, .int .u64 z.b, .int .u64 z.d] 34))) := (HB6.out.alloc (Below.size HB6.out) _).alloc (Nat.le_trans (Below.size HB6.out) (by simp)) _
          clear hb hy hz j0 j1 j2 hk1 hk2
          unfold ahead at hah
          by_cases hp : y.p < z.p
          · have hp1 : ¬ z.p < y.p := by omega
            have hp2 : (y.p == z.p) = false := by simp; omega
            have hp3 : ¬ y.p = z.p := by omega
            clear hah
            go_wp2_with fail
            exact ⟨⟨m + 1 + 1, by omega, by omega, by go_num, HBE.out⟩, by simp [intOf]; omega⟩
          · have hp1 : y.p = z.p := by omega
            have hp2 : ¬ z.b < y.d := by omega
            clear hah hp
            obtain ⟨y1, y2, y3⟩ := y
            obtain ⟨z1, z2, z3⟩ := z
            simp only at k0 k1 k2 n0 n1 n2 hp1 hp2
            subst hp1
            go_wp2_with fail
            exact ⟨⟨m + 1 + 1, by omega, by omega, by go_num, HBE.out⟩, by simp [intOf]; omega⟩
        · have hltz : ¬ (k : Int) < (D.length : Int) := by omega
          clear hb hk1 hk2
          go_wp2_with fail
          obtain ⟨wq, hwq⟩ : ∃ wq, wq = wr := ⟨_, rfl⟩
          go_loopw [14, 15, 16] (fun i _ _ wx => ∃ j : Nat, j ≤ I.length ∧ i = .int .i64 j ∧ Below w5.heap.size w5 wx) (fun i _ _ _ => I.length - (intOf i).toNat)
          case atStart => exact ⟨0, Nat.zero_le _, rfl, HB6.out⟩
          case round =>
            obtain ⟨j, hj, rfl, hb⟩ := hrel
            have HB7 : Hid _ := hb
            by_cases hjl : j < I.length
            · have hjz : (j : Int) < (I.length : Int) := by omega
              obtain ⟨x, hx⟩ : ∃ x, I[j]? = some x := ⟨_, List.getElem?_eq_getElem hjl⟩
              have hcx := HCO.out x (List.mem_of_getElem? hx)
              have HCX : Hid _ := hcx
              obtain ⟨g, off, rfl, hg, k0, k1, k2⟩ := lives_cell (HI5.out.here hb) hx
              clear hx hb hcx
              go_wp2_with fail
              obtain ⟨wp, hwp⟩ : ∃ wp, wp = wr := ⟨_, rfl⟩
              go_loopw [15, 16] (fun n i wx => ∃ l : Nat, l ≤ D.length ∧ i = .int .i64 l ∧ n = .int .i64 (((D.take l).countP fun y => decide (y = x) : Nat) : Int) ∧ ∃ q, wx = wp.drewN q) (fun _ i _ => D.length - (intOf i).toNat)
              case atStart => exact ⟨0, Nat.zero_le _, rfl, rfl, 0, by rw [hwp]; rfl⟩
              case round =>
                obtain ⟨l, hl, rfl, rfl, q, rfl⟩ := hrel
                have hcl : (D.take l).countP (fun y => decide (y = x)) ≤ D.length := Nat.le_trans List.countP_le_length (Nat.le_trans (List.length_take_le _ _) hl)
                have HBP : Hid (Below w5.heap.size w5 wp) := by rw [hwp]; exact HB7.out
                by_cases hll : l < D.length
                · have hlz : (l : Int) < (D.length : Int) := by omega
                  obtain ⟨y, hy⟩ : ∃ y, D[l]? = some y := ⟨_, List.getElem?_eq_getElem hll⟩
                  obtain ⟨g2, off2, rfl, _, j0, j1, j2⟩ := lives_cell (HN5.out.here HBP.out) hy
                  have HTC : Hid ((D.take (l + 1)).countP (fun y => decide (y = x)) = (D.take l).countP (fun y => decide (y = x)) + if y = x then 1 else 0) := by
                    show _ = _
                    rw [List.take_add_one, hy, List.countP_append]
                    congr 1
                    simp [List.countP_cons]
                  generalize (D.take l).countP (fun y => decide (y = x)) = n at hcl HTC
                  rw [← hwp] at k0 k1 k2
                  clear hy hwp
                  obtain ⟨x1, x2, x3⟩ := x
                  obtain ⟨y1, y2, y3⟩ := y
                  simp only at k0 k1 k2 j0 j1 j2
                  by_cases e1 : y1 = x1
                  · subst e1
                    by_cases e2 : y2 = x2
                    · subst e2
                      by_cases e3 : y3 = x3
                      · subst e3
                        go_wp2_with fail
                        go_quiet (fail)
                        all_goals
                          go_wp2_with fail
                          exact ⟨⟨l + 1, by omega, by go_num, by rw [HTC.out]; go_num, _, rfl⟩, by simp [intOf]; omega⟩
                      · have b3 : (y3 == x3) = false := by simpa using e3
                        have hne : ¬ (Lf.mk y1 y2 y3 = Lf.mk y1 y2 x3) := by simpa using e3
                        have HTD : Hid _ := HTC.out
                        rw [if_neg hne] at HTD
                        clear hne
                        go_wp2_with fail
                        go_quiet (fail)
                        all_goals
                          go_wp2_with fail
                          exact ⟨⟨l + 1, by omega, by go_num, by rw [HTD.out]; go_num, _, rfl⟩, by simp [intOf]; omega⟩
                    · have b2 : (y2 == x2) = false := by simpa using e2
                      have hne : ¬ (Lf.mk y1 y2 y3 = Lf.mk y1 x2 x3) := by simp [e2]
                      have HTD : Hid _ := HTC.out
                      rw [if_neg hne] at HTD
                      clear hne
                      go_wp2_with fail
                      go_quiet (fail)
                      all_goals
                        go_wp2_with fail
                        exact ⟨⟨l + 1, by omega, by go_num, by rw [HTD.out]; go_num, _, rfl⟩, by simp [intOf]; omega⟩
                  · have b1 : (y1 == x1) = false := by simpa using e1
                    have hne : ¬ (Lf.mk y1 y2 y3 = Lf.mk x1 x2 x3) := by simp [e1]
                    have HTD : Hid _ := HTC.out
                    rw [if_neg hne] at HTD
                    clear hne
                    go_wp2_with fail
                    go_quiet (fail)
                    all_goals
                      go_wp2_with fail
                      exact ⟨⟨l + 1, by omega, by go_num, by rw [HTD.out]; go_num, _, rfl⟩, by simp [intOf]; omega⟩
                · have hlz : ¬ (l : Int) < (D.length : Int) := by omega
                  have hone : (D.take l).countP (fun y => decide (y = x)) = 1 := by rw [List.take_of_length_le (by omega)]; exact HCX.out
                  rw [hone]
                  clear hone hcl hwp
                  go_wp2_with fail
                  exact ⟨⟨j + 1, by omega, by go_num, below_draws HBP.out _⟩, by simp [intOf]; omega⟩
            · have hjz : ¬ (j : Int) < (I.length : Int) := by omega
              have HLV := lives_any (HL5.out.below hb)
              have HB8 : Hid (Below w.heap.size w wr) := Below.trans HB5.out (hb.mono (Below.size HB5.out))
              clear hb
              go_wp2_with fail
              refine HLV.mono ?_
              rintro e w8 ⟨v8, rfl, hn8, hb8⟩
              have HN8 : Hid _ := hn8
              have HB9 : Hid (Below w5.heap.size w5 w8) := Below.trans HB7.out (hb8.mono (Below.size HB7.out))
              have HB10 : Hid (Below w.heap.size w w8) := Below.trans HB8.out (hb8.mono (Below.size HB8.out))
              clear hn8 hb8 HLV
              go_wp2_with fail
              refine (sameLives_any (RowAt.own HN8.out) (HN5.out.here HB9.out) (by omega)).mono ?_
              rintro e w9 ⟨rfl, q, hw9⟩
              rw [show decide (D = D) = true from by simp]
              have HBF : Hid (Below w.heap.size w w9) := by rw [hw9]; exact below_draws HB10.out q
              clear hw9
              go_wp2_with fail
              go_ret
              exact ⟨rfl, HBF.out⟩
end Go.Proofs.Ytcfmcakdgamdmaa
