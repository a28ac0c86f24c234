/- DeadKept's walk. -/
import Derived.Test.YtcfmcakdgamdmaaKeptM
import Derived.Deep.CutBlock
namespace Go.Proofs.Ytcfmcakdgamdmaa
open Go.RowKit

set_option maxHeartbeats 6400000 in
set_option maxRecDepth 100000 in
theorem deadKept_any {w : World} {vx sv : Value} {X : List Lf} {S : List Int} {F G : Int} (hX : LivesAt w vx X) (hs : X.length * 24 ≤ 140737488355328) (hS : U64At w sv S) (hs2 : S.length * 24 ≤ 140737488355328) (hF1 : -9223372036854775808 ≤ F) (hF2 : F ≤ 9223372036854775807) :
    Calls Try.prog 6 #[vx, sv, .int .i64 F, .int .u64 G] w fun e w' => e = .returned (.bool true) ∧ Below w.heap.size w w' := by
  obtain ⟨a, c, rfl⟩ := hX.form
  obtain ⟨sa, sc, rfl⟩ := hS.form
  have HX : Hid _ := hX
  have HS : Hid _ := hS
  have hfl := fill_length X
  have hfe := fill_lengths X
  have HOK : Hid _ := fill_ok X
  have HPM : Hid _ := fill_perm X
  clear hX hS
  go_enter Try.func6, Try.ntmps6
  go_wp2_with fail
  refine (awake_any w).mono ?_
  rintro e w1 ⟨rfl, hb1⟩
  have HB1 : Hid _ := hb1
  clear hb1
  go_wp2_with fail
  refine (filled_any (HX.out.here HB1.out) hs).mono ?_
  rintro e w2 ⟨b, v, u, rfl, hl2, hu2, hb2, hap2⟩
  have HB2 : Hid (Below w.heap.size w w2) := Below.trans HB1.out (hb2.mono (Below.size HB1.out))
  have HL2 : Hid _ := hl2
  have HU2 : Hid _ := hu2
  have HAP : Hid _ := hap2
  obtain ⟨au, cu, e1⟩ := own_slice hu2
  subst e1
  clear hl2 hu2 hb2 hap2
  go_wp2_with fail
  refine (filled_any (HX.out.here HB2.out) hs).mono ?_
  rintro e w3 ⟨b', v', u', rfl, hl3, hu3, hb3, _⟩
  have HB3 : Hid (Below w.heap.size w w3) := Below.trans HB2.out (hb3.mono (Below.size HB2.out))
  have hsz23 : w2.heap.size ≤ w3.heap.size := hb3.size
  have HE3 : Hid (ListAt w2.heap.size w3 b' v' (fillL X).1) := hl3
  have HD3 : Hid (ListAt w1.heap.size w3 b v (fillL X).1) := HL2.out.below hb3
  have HI3 : Hid (NewL w1.heap.size w3 (.slice au (fillL X).2.length cu) (fillL X).2) := own_here HU2.out hb3
  have HDI : Hid (∀ i, Its b v i → i < w2.heap.size) := fun i hi => (HL2.out.its i hi).2
  have HEI : Hid (∀ i, Its b' v' i → w2.heap.size ≤ i ∧ i < w3.heap.size) := fun i hi => HE3.out.its i hi
  have HIB : Hid (∀ i, (Value.slice au (fillL X).2.length cu).ownBlock = some i → i < w2.heap.size) := fun i hi => (own_type HU2.out i hi).1
  clear hl3 hu3 hb3 HL2 HU2
  generalize hI : (fillL X).2 = I at *
  generalize hD : (fillL X).1 = D at *
  clear hI hD
  have hS3 : (S.length : Int) ≤ 5864062014805 := by omega
  go_upto_region 6 with fail
  go_cut [56] (fun s wx => (∃ t : Bool, s = .bool t ∧ (t = false → 0 ≤ F ∧ F ≤ (S.length : Int))) ∧ wx = w3)
  case first =>
    by_cases hF0 : F < 0
    · go_wp2_with fail
      go_meet
      exact ⟨⟨true, rfl, fun h => (by cases h)⟩, rfl⟩
    · by_cases hF3 : F > (S.length : Int)
      · go_wp2_with fail
        go_meet
        exact ⟨⟨true, rfl, fun h => (by cases h)⟩, rfl⟩
      · go_wp2_with fail
        go_meet
        exact ⟨⟨false, rfl, fun _ => ⟨by omega, by omega⟩⟩, rfl⟩
  case rest =>
    obtain ⟨⟨t, rfl, ht⟩, hw⟩ := hcut
    obtain rfl := hw.symm
    go_upto_if 56 with fail
    go_cut [2] (fun s wx => (∃ f : Nat, f ≤ S.length ∧ s = .int .i64 (f : Int)) ∧ wx = w3)
    case first =>
      cases t
      · obtain ⟨f0, f1⟩ := ht rfl
        obtain ⟨f, rfl⟩ : ∃ f : Nat, F = (f : Int) := ⟨F.toNat, by omega⟩
        go_wp2_with fail
        go_meet
        exact ⟨⟨f, by omega, rfl⟩, rfl⟩
      · obtain ⟨m, hm⟩ : ∃ m, m = S.length / 2 := ⟨_, rfl⟩
        have hq : (S.length : Int) / 2 = (m : Int) := by omega
        have hm2 : m ≤ S.length := by omega
        clear ht hm
        go_wp2_with fail
        go_meet
        exact ⟨⟨m, hm2, rfl⟩, rfl⟩
    case rest =>
      obtain ⟨⟨f, hf, rfl⟩, hw⟩ := hcut
      obtain rfl := hw.symm
      clear ht hF1 hF2
      go_wp2_with fail
      go_loopw [14, 15] (fun t i wx => ∃ k : Nat, k ≤ S.length ∧ i = .int .i64 k ∧ Helds w3.heap.size wx t D S k ∧ Below w3.heap.size w3 wx) (fun _ i _ => S.length - (intOf i).toNat)
      case atStart => exact ⟨0, Nat.zero_le _, rfl, Helds.none _ _ _ _, Below.refl _ _⟩
      case round =>
        obtain ⟨k, hk, rfl, hh, hb⟩ := hrel
        have HH : Hid _ := hh
        have HB : Hid _ := hb
        clear hh
        by_cases hlt : k < S.length
        · have hltz : (k : Int) < (S.length : Int) := by omega
          obtain ⟨s, hs1⟩ : ∃ s, S[k]? = some s := ⟨_, List.getElem?_eq_getElem hlt⟩
          have HSK : Hid _ := hs1
          have hbw : Below w.heap.size w wr := Below.trans HB3.out (Below.mono hb (Below.size HB3.out))
          obtain ⟨g, off, rfl, hg, k0⟩ := u64s_cell (HS.out.here hbw) hs1
          have HHE := held_any (HD3.out.below hb) s
          obtain ⟨vs, hv1, hv2, hv3⟩ := HH.out.is
          have HV2 : Hid _ := hv2
          have HV3 : Hid _ := hv3
          have hvs : vs.length = k := hv1
          clear hs1 hb hbw hv1 hv2 hv3 HH
          go_wp2_with fail
          refine HHE.mono ?_
          rintro e w4 ⟨v4, rfl, hn4, hb4⟩
          have hsz3 : w3.heap.size ≤ wr.heap.size := Below.size HB.out
          obtain ⟨ra, rc, e4⟩ := own_slice hn4
          subst e4
          obtain ⟨W, hW⟩ : ∃ W, W = w4.alloc (.cells #[.slice ra (heldL D s).length rc] 47) := ⟨_, rfl⟩
          have hbW : Below wr.heap.size wr W := by rw [hW]; exact hb4.alloc hb4.size _
          have hbX : Below w4.heap.size w4 W := by rw [hW]; exact below_new _ _
          have HVA : Hid (NewS w3.heap.size W u14 vs) := own_here HV2.out hbW
          have HVE : Hid (∀ (j : Nat) (v : Value), vs[j]? = some v → ∃ s : Int, S[j]? = some s ∧ NewI w3.heap.size W v (heldL D s)) := fun j v hj => by
            obtain ⟨s', h1, h2⟩ := HV3.out j v hj
            exact ⟨s', h1, own_here h2 hbW⟩
          have HVN : Hid (NewI w3.heap.size W (.slice ra (heldL D s).length rc) (heldL D s)) := own_mono (own_here hn4 hbX) hsz3
          have HBW : Hid (Below w3.heap.size w3 W) := Below.trans HB.out (hbW.mono hsz3)
          have HWH : Hid (W.heap[w4.heap.size]? = some (.cells #[.slice ra (heldL D s).length rc] 47 (0, 0))) := by rw [hW]; exact heap_alloc_last _ _
          have hsW : w3.heap.size ≤ W.heap.size := Nat.le_trans hsz3 hbW.size
          have h24 : (vs.length + 1) * 24 ≤ 140737488355328 := by omega
          clear hn4 hb4 HHE hbW hbX HV2 HV3
          have HSTEP : Hid (∀ w' v', Keep 47 w3.heap.size W w' → NewS w3.heap.size w' v' (vs ++ [.slice ra (heldL D s).length rc]) → Helds w3.heap.size w' v' D S (k + 1)) := fun w' v' hk hn => helds_step hvs HSK.out HVE.out HVN.out hk hn
          clear HVN HVE
          generalize heldL D s = Q at hW HSTEP HWH ⊢
          go_wp2_with (at_builtin; rw [← hW]; refine wpList_append_ints rfl _ _ rfl w3.heap.size u14 vs ra Q.length rc rfl HVA.out w4.heap.size rfl HWH.out h24 hsW ?_; intro v5 w5 hv5 _ hk5; have HV5 : Hid _ := hv5; have HK5 : Hid _ := hk5; clear hv5 hk5 hW)
          exact ⟨⟨k + 1, by omega, by go_num, HSTEP.out _ _ HK5.out HV5.out, Below.trans HBW.out HK5.out.low⟩, by simp [intOf]; omega⟩
        · have hltz : ¬ (k : Int) < (S.length : Int) := by omega
          obtain rfl : k = S.length := by omega
          have HHE := held_any (HD3.out.below hb) G
          have HL4 : Hid (Below w.heap.size w wr) := Below.trans HB3.out (Below.mono hb (Below.size HB3.out))
          have HD4 : Hid (ListAt w1.heap.size wr b v D) := HD3.out.below hb
          have HE4 : Hid (ListAt w2.heap.size wr b' v' D) := HE3.out.below hb
          have HI4 : Hid (NewL w1.heap.size wr (.slice au I.length cu) I) := own_here HI3.out hb
          have hs34 : w3.heap.size ≤ wr.heap.size := Below.size hb
          have HH4 : Hid (Helds w3.heap.size wr u14 D S S.length) := HH.out
          obtain ⟨ah, nh, ch, e14⟩ : ∃ a n c, u14 = .slice a n c := by
            obtain ⟨vs, _, h2, _⟩ := HH.out.is
            obtain ⟨a, c, e⟩ := own_slice h2
            exact ⟨a, _, c, e⟩
          subst e14
          clear hk hlt hb HH HB HB3 HD3 HE3 HI3
          go_wp2_with fail
          refine HHE.mono ?_
          rintro e w5 ⟨v5, rfl, hn5, hb5⟩
          have HN5 : Hid _ := hn5
          have HL5 : Hid (Below w.heap.size w w5) := Below.trans HL4.out (hb5.mono (Below.size HL4.out))
          have HD5 : Hid (ListAt w1.heap.size w5 b v D) := HD4.out.below hb5
          have HE5 : Hid (ListAt w2.heap.size w5 b' v' D) := HE4.out.below hb5
          have HI5 : Hid (NewL w1.heap.size w5 (.slice au I.length cu) I) := own_here HI4.out hb5
          have HH5 : Hid (Helds w3.heap.size w5 (.slice ah nh ch) D S S.length) := HH4.out.here hb5
          have hs35 : w3.heap.size ≤ w5.heap.size := Nat.le_trans hs34 hb5.size
          have HHL : Hid ((heldL D G).length = I.countP (needsL G)) := held_length HPM.out G
          have HHM : Hid (∀ x ∈ I, needsL G x = true → x.p ∈ heldL D G) := fun x hx hn => held_mem (HPM.out.mem_iff.2 hx) hn
          obtain ⟨a5, c5, e5⟩ := own_slice hn5
          subst e5
          have hHs : (heldL D G).length ≤ I.length := by rw [HHL.out]; exact List.countP_le_length
          clear hn5 hb5 HHE HL4 HD4 HE4 HI4 HH4 hs34
          generalize heldL D G = H at HN5 HHL HHM hHs ⊢
          have hI47 : I.length ≤ 5864062014805 := by omega
          go_wp2_with fail
          go_loopw [17, 18] (fun m i wx => ∃ j : Nat, j ≤ I.length ∧ i = .int .i64 j ∧ m = .int .i64 (((I.take j).countP (needsL G) : Nat) : Int) ∧ Below w5.heap.size w5 wx) (fun _ i _ => I.length - (intOf i).toNat)
          case atStart => exact ⟨0, Nat.zero_le _, rfl, rfl, Below.refl _ _⟩
          case round =>
            obtain ⟨j, hj, rfl, rfl, hb⟩ := hrel
            have HB6 : Hid _ := hb
            have hcj : (I.take j).countP (needsL G) ≤ I.length := Nat.le_trans List.countP_le_length (List.length_take_le' _ _)
            by_cases hjl : j < I.length
            · have hjz : (j : Int) < (I.length : Int) := by omega
              obtain ⟨y, hy⟩ : ∃ y, I[j]? = some y := ⟨_, List.getElem?_eq_getElem hjl⟩
              obtain ⟨g, off, rfl, hg, k0, k1, k2⟩ := lives_cell ((RowAt.own HI5.out).here hb) hy
              have HTC : Hid ((I.take (j + 1)).countP (needsL G) = (I.take j).countP (needsL G) + if needsL G y then 1 else 0) := by
                show _ = _
                rw [List.take_add_one, hy, List.countP_append]
                congr 1
                simp [List.countP_cons]
              have HYM : Hid (needsL G y = true → y.p ∈ H) := fun h => HHM.out y (List.mem_of_getElem? hy) h
              have HND := lneeds_any wr G y
              generalize (I.take j).countP (needsL G) = m at hcj HTC
              generalize needsL G y = bb at HTC HYM HND
              clear hy hb
              go_wp2_with fail
              refine HND.mono ?_
              rintro e w6 ⟨rfl, hb6⟩
              have HB7 : Hid (Below w5.heap.size w5 w6) := Below.trans HB6.out (hb6.mono (Below.size HB6.out))
              have j0 := (hb6.cell (p := ⟨g, off + j * 3, none⟩) hg).trans k0
              clear HND hb6
              cases bb
              · go_wp2_with fail
                exact ⟨⟨j + 1, by omega, by go_num, by rw [HTC.out]; rfl, HB7.out⟩, by simp [intOf]; omega⟩
              · have hmem : decide (y.p ∈ H) = true := by simpa using HYM.out (by first | rfl | trivial)
                have HHA := has_any (w := w6) (v := .slice a5 H.length c5) y.p ((RowAt.own HN5.out).here HB7.out) (by omega)
                rw [hmem] at HHA
                clear hmem
                go_wp2_with fail
                refine HHA.mono ?_
                rintro e w7 ⟨rfl, hb7⟩
                have HB8 : Hid (Below w5.heap.size w5 w7) := Below.trans HB7.out (hb7.mono (Below.size HB7.out))
                clear hb7 HHA
                go_wp2_with fail
                exact ⟨⟨j + 1, by omega, by go_num, by rw [HTC.out]; go_num, HB8.out⟩, by simp [intOf]; omega⟩
            · have hjz : ¬ (j : Int) < (I.length : Int) := by omega
              have hone : (I.take j).countP (needsL G) = H.length := by rw [List.take_of_length_le (by omega)]; exact HHL.out.symm
              rw [hone]
              have hne : ((H.length : Int) != (H.length : Int)) = false := by simp
              clear hone hcj hj
              have HL6 : Hid (Below w.heap.size w wr) := Below.trans HL5.out (hb.mono (Below.size HL5.out))
              have HD6 : Hid (ListAt w1.heap.size wr b v D) := HD5.out.below hb
              have HE6 : Hid (ListAt w2.heap.size wr b' v' D) := HE5.out.below hb
              have HI6 : Hid (NewL w1.heap.size wr (.slice au I.length cu) I) := own_here HI5.out hb
              have HH6 : Hid (Helds w3.heap.size wr (.slice ah nh ch) D S S.length) := HH5.out.here hb
              have hs36 : w3.heap.size ≤ wr.heap.size := Nat.le_trans hs35 (Below.size hb)
              have hs01 : w.heap.size ≤ w1.heap.size := Below.size HB1.out
              have hs02 : w.heap.size ≤ w2.heap.size := Below.size HB2.out
              have HF6 := free_any HD6.out (HS.out.here HL6.out) (by omega) (sort_all S.length (by omega))
              clear hb HB6 HL5 HD5 HE5 HI5 HH5 hs35
              go_wp2_with fail
              refine HF6.mono ?_
              rintro e w7 ⟨vg, v7, rfl, hg7, hd7, hk7, ho7⟩
              have HD7 : Hid (ListAt w1.heap.size w7 b v7 (leftL D S)) := hd7
              have HE7 : Hid (ListAt w2.heap.size w7 b' v' D) := HE6.out.kept hk7 (fun i hi hn => by have := HEI.out i hi; have := HDI.out i hn; omega)
              have HI7 : Hid (NewL w1.heap.size w7 (.slice au I.length cu) I) := own_kept HI6.out hk7 (fun i hi hn => HAP.out i hi hn)
              have HH7 : Hid (Helds w3.heap.size w7 (.slice ah nh ch) D S S.length) := HH6.out.kept hk7 (fun i hi => by have := HDI.out i hi; omega)
              have HL7 : Hid (Below w.heap.size w w7) := Kept.below HL6.out hk7 (Below.size HL6.out) (fun i hi => by have := (HD6.out.its i hi).1; omega)
              have HG7 : Hid (NewI wr.heap.size w7 vg (goneL D S)) := hg7
              have HO7 : Hid (∀ i, Its b v7 i → i < w2.heap.size) := fun i hi => HDI.out i (by
                rcases hi with hi | hi
                · exact .inl hi
                · exact .inr (by rw [← ho7]; exact hi))
              obtain ⟨ag, cg, eg⟩ := own_slice hg7
              subst eg
              have hfl2 : (S.take f).length = f := List.length_take_of_le hf
              have hfz : (f : Int) ≤ (S.length : Int) := by omega
              have hscf : f ≤ sc := by
                obtain ⟨⟨_, _, e, h1, _⟩, _⟩ := HS.out
                cases e
                omega
              have hscz : (f : Int) ≤ (sc : Int) := by omega
              have HF7 := free_any HE7.out (u64_take (HS.out.here HL7.out) hf) (by rw [hfl2]; omega) (sort_all (S.take f).length (by rw [hfl2]; omega))
              rw [hfl2] at HF7
              clear hg7 hd7 hk7 ho7 HF6 HL6 HD6 HE6 HI6 HH6 hne
              go_wp2_with fail
              refine HF7.mono ?_
              rintro e w8 ⟨vm, v8, rfl, hm8, he8, hk8, ho8⟩
              have HM8 : Hid (NewI w7.heap.size w8 vm (goneL D (S.take f))) := hm8
              have HD8 : Hid (ListAt w1.heap.size w8 b v7 (leftL D S)) := HD7.out.kept hk8 (fun i hi hn => by have := HEI.out i hn; have := HO7.out i hi; omega)
              have HI8 : Hid (NewL w1.heap.size w8 (.slice au I.length cu) I) := own_kept HI7.out hk8 (fun i hi hn => by have := HEI.out i hn; have := HIB.out i hi; omega)
              have HH8 : Hid (Helds w3.heap.size w8 (.slice ah nh ch) D S S.length) := HH7.out.kept hk8 (fun i hi => (HEI.out i hi).2)
              have HG8 : Hid (NewI wr.heap.size w8 (.slice ag (goneL D S).length cg) (goneL D S)) := own_kept HG7.out hk8 (fun i hi hn => by have := HEI.out i hn; have := (own_type HG7.out i hi).2.1; omega)
              have HL8 : Hid (Below w.heap.size w w8) := Kept.below HL7.out hk8 (Below.size HL7.out) (fun i hi => by have := (HEI.out i hi).1; omega)
              obtain ⟨am, cm, em⟩ := own_slice hm8
              subst em
              have HV8 := lives_any HD8.out
              clear hm8 he8 hk8 ho8 HF7 HL7 HD7 HE7 HI7 HH7 HG7 hscf hscz hfl2
              go_wp2_with fail
              refine HV8.mono ?_
              rintro e w9 ⟨vl, rfl, hl9, hb9⟩
              have HL9 : Hid (Below w.heap.size w w9) := Below.trans HL8.out (hb9.mono (Below.size HL8.out))
              have HD9 : Hid (ListAt w1.heap.size w9 b v7 (leftL D S)) := HD8.out.below hb9
              have HI9 : Hid (LivesAt w9 (.slice au I.length cu) I) := RowAt.own (own_here HI8.out hb9)
              have HH9 : Hid (Helds w3.heap.size w9 (.slice ah nh ch) D S S.length) := HH8.out.here hb9
              have HG9 : Hid (IntsAt w9 (.slice ag (goneL D S).length cg) (goneL D S)) := RowAt.own (own_here HG8.out hb9)
              have HM9 : Hid (IntsAt w9 (.slice am (goneL D (S.take f)).length cm) (goneL D (S.take f))) := RowAt.own (own_here HM8.out hb9)
              have HV9 : Hid (LivesAt w9 vl (leftL D S)) := RowAt.own hl9
              have HS9 : Hid (U64At w9 (.slice sa S.length sc) S) := HS.out.here HL9.out
              obtain ⟨al, cl, el⟩ := own_slice hl9
              subst el
              have P1 : Hid (∀ x ∈ I, anyL S x = false → x.p ∈ goneL D S) := fun x hx h => gone_mem.2 ⟨x, HPM.out.mem_iff.2 hx, h, rfl⟩
              have P2 : Hid ((goneL D S).Pairwise (· < ·)) := gone_rise HOK.out S
              have P3 : Hid (∀ n ∈ goneL D S, n ∈ goneL D (S.take f)) := fun n hn => gone_fewer f hn
              have P4 : Hid ((leftL D S).length = I.countP (anyL S)) := left_length HPM.out S
              have P5 : Hid (∀ x ∈ leftL D S, anyL S x = true) := fun x hx => left_any hx
              have P6 : Hid (∀ s ∈ S, heldL (leftL D S) s = heldL D s) := fun s hs => held_left hs
              have P7 : Hid (goneL (leftL D S) S = [] ∧ leftL (leftL D S) S = leftL D S) := ⟨gone_left D S, left_left D S⟩
              have hDl : D.length = I.length := HPM.out.length_eq
              have hgl : (goneL D S).length ≤ I.length := by have := gone_length D S; omega
              have hml : (goneL D (S.take f)).length ≤ I.length := by have := gone_length D (S.take f); omega
              have hll : (leftL D S).length ≤ I.length := by rw [P4.out]; exact List.countP_le_length
              clear hl9 hb9 HV8 HL8 HD8 HI8 HH8 HG8 HM8 hf hfz HHL HHM HN5 hjz hjl
              generalize goneL D S = GN at P1 P2 P3 HG9 hgl ⊢
              generalize goneL D (S.take f) = MR at P3 HM9 hml ⊢
              generalize leftL D S = LF at P4 P5 P6 P7 HD9 HV9 hll ⊢
              go_wp2_with fail
              go_loopw [22, 23, 24] (fun m i _ wx => ∃ j : Nat, j ≤ I.length ∧ i = .int .i64 j ∧ m = .int .i64 (((I.take j).countP (anyL S) : Nat) : Int) ∧ Below w9.heap.size w9 wx) (fun _ i _ _ => I.length - (intOf i).toNat)
              case atStart => exact ⟨0, Nat.zero_le _, rfl, rfl, Below.refl _ _⟩
              case round =>
                obtain ⟨j, hj, rfl, rfl, hb⟩ := hrel
                have HB10 : Hid _ := hb
                have hcj : (I.take j).countP (anyL S) ≤ I.length := Nat.le_trans List.countP_le_length (List.length_take_le' _ _)
                by_cases hjl : j < I.length
                · have hjz : (j : Int) < (I.length : Int) := by omega
                  obtain ⟨y, hy⟩ : ∃ y, I[j]? = some y := ⟨_, List.getElem?_eq_getElem hjl⟩
                  obtain ⟨g, off, rfl, hg, k0, k1, k2⟩ := lives_cell (HI9.out.here hb) hy
                  have HTC : Hid ((I.take (j + 1)).countP (anyL S) = (I.take j).countP (anyL S) + if anyL S y then 1 else 0) := by
                    show _ = _
                    rw [List.take_add_one, hy, List.countP_append]
                    congr 1
                    simp [List.countP_cons]
                  have HYM : Hid (anyL S y = false → y.p ∈ GN) := fun h => P1.out y (List.mem_of_getElem? hy) h
                  have HND := lany_any y (HS9.out.here hb) (by omega)
                  generalize (I.take j).countP (anyL S) = m at hcj HTC
                  generalize anyL S y = bb at HTC HYM HND
                  clear hy hb
                  go_wp2_with fail
                  refine HND.mono ?_
                  rintro e w10 ⟨rfl, hb10⟩
                  have HB11 : Hid (Below w9.heap.size w9 w10) := Below.trans HB10.out (hb10.mono (Below.size HB10.out))
                  have j0 := (hb10.cell (p := ⟨g, off + j * 3, none⟩) hg).trans k0
                  clear HND hb10
                  cases bb
                  · have hmem : decide (y.p ∈ GN) = true := by simpa using HYM.out (by first | rfl | trivial)
                    have HHA := has_any (w := w10) (v := .slice ag GN.length cg) y.p (HG9.out.here HB11.out) (by omega)
                    rw [hmem] at HHA
                    clear hmem
                    go_wp2_with fail
                    refine HHA.mono ?_
                    rintro e w11 ⟨rfl, hb11⟩
                    have HB12 : Hid (Below w9.heap.size w9 w11) := Below.trans HB11.out (hb11.mono (Below.size HB11.out))
                    clear hb11 HHA
                    go_wp2_with fail
                    exact ⟨⟨j + 1, by omega, by go_num, by rw [HTC.out]; rfl, HB12.out⟩, by simp [intOf]; omega⟩
                  · go_wp2_with fail
                    exact ⟨⟨j + 1, by omega, by go_num, by rw [HTC.out]; go_num, HB11.out⟩, by simp [intOf]; omega⟩
                · have hjz : ¬ (j : Int) < (I.length : Int) := by omega
                  have hone : (I.take j).countP (anyL S) = LF.length := by rw [List.take_of_length_le (by omega)]; exact P4.out.symm
                  rw [hone]
                  clear hone hcj hj hb hjl
                  go_wp2_with fail
                  obtain ⟨wq, hwq⟩ : ∃ wq, wq = wr := ⟨_, rfl⟩
                  go_loopw [25] (fun i wx => ∃ j : Nat, j ≤ LF.length ∧ i = .int .i64 j ∧ Below w9.heap.size w9 wx) (fun i _ => LF.length - (intOf i).toNat)
                  case atStart => exact ⟨0, Nat.zero_le _, rfl, HB10.out⟩
                  case round =>
                    obtain ⟨j, hj, rfl, hb⟩ := hrel
                    have HB13 : Hid _ := hb
                    by_cases hjl : j < LF.length
                    · have hjz : (j : Int) < (LF.length : Int) := by omega
                      obtain ⟨y, hy⟩ : ∃ y, LF[j]? = some y := ⟨_, List.getElem?_eq_getElem hjl⟩
                      obtain ⟨g, off, rfl, hg, k0, k1, k2⟩ := lives_cell (HV9.out.here hb) hy
                      have HND := lany_any y (HS9.out.here hb) (by omega)
                      rw [P5.out y (List.mem_of_getElem? hy)] at HND
                      clear hy hb
                      go_wp2_with fail
                      refine HND.mono ?_
                      rintro e w10 ⟨rfl, hb10⟩
                      have HB11 : Hid (Below w9.heap.size w9 w10) := Below.trans HB13.out (hb10.mono (Below.size HB13.out))
                      clear HND hb10
                      go_wp2_with fail
                      exact ⟨⟨j + 1, by omega, by go_num, HB11.out⟩, by simp [intOf]; omega⟩
                    · have hjz : ¬ (j : Int) < (LF.length : Int) := by omega
                      clear hj hjl hb hwq
                      go_wp2_with fail
                      obtain ⟨wq2, hwq2⟩ : ∃ wq2, wq2 = wr := ⟨_, rfl⟩
                      go_loopw [26] (fun i wx => ∃ j : Nat, j ≤ GN.length ∧ i = .int .i64 j ∧ Below w9.heap.size w9 wx) (fun i _ => GN.length - (intOf i).toNat)
                      case atStart => exact ⟨0, Nat.zero_le _, rfl, HB13.out⟩
                      case round =>
                        obtain ⟨j, hj, rfl, hb⟩ := hrel
                        have HB14 : Hid _ := hb
                        by_cases hjl : j < GN.length
                        · have hjz : (j : Int) < (GN.length : Int) := by omega
                          obtain ⟨y, hy⟩ : ∃ y, GN[j]? = some y := ⟨_, List.getElem?_eq_getElem hjl⟩
                          obtain ⟨g, off, rfl, hg, k0⟩ := ints_cell (HG9.out.here hb) hy
                          have hmem : decide (y ∈ MR) = true := by simpa using P3.out y (List.mem_of_getElem? hy)
                          have HHA : Hid (∀ n, Calls Try.prog 16 #[.slice am MR.length cm, .int .i64 y] (wr.drewN n) fun e w' => e = .returned (.bool true) ∧ w' = wr.drewN n) := fun n => by
                            have := has_same (w := wr.drewN n) (v := .slice am MR.length cm) y (HM9.out.here (below_draws hb n)) (by omega)
                            rw [hmem] at this
                            exact this
                          by_cases hj0 : j = 0
                          · have hjg : ¬ (j : Int) > 0 := by omega
                            have hjn : ¬ 0 < j := by omega
                            have hjd : decide ((j : Int) > 0) = false := by simpa using hj0
                            clear hy hb hmem hj hjl hj0
                            go_wp2_with fail
                            go_quiet ((go_at_call 16; exact Calls.quiet_of_same (HHA.out _)))
                            go_wp2_with fail
                            exact ⟨⟨j + 1, by omega, by go_num, below_draws HB14.out _⟩, by simp [intOf]; omega⟩
                          · obtain ⟨m, hm⟩ : ∃ m, m = j - 1 := ⟨_, rfl⟩
                            obtain ⟨x, hx⟩ : ∃ x, GN[m]? = some x := ⟨_, List.getElem?_eq_getElem (by omega)⟩
                            obtain ⟨g', off', e', _, k1⟩ := ints_cell (HG9.out.here hb) hx
                            cases e'
                            have hlt : x < y := by
                              obtain ⟨h1, e1⟩ := List.getElem?_eq_some_iff.1 hx
                              obtain ⟨h2, e2⟩ := List.getElem?_eq_some_iff.1 hy
                              rw [← e1, ← e2]
                              exact List.pairwise_iff_getElem.1 P2.out m j h1 h2 (by omega)
                            have hge : ¬ y ≤ x := by omega
                            have hge2 : decide (y ≤ x) = false := decide_eq_false hge
                            have hge3 : decide (x ≥ y) = false := decide_eq_false hge
                            have hjg : (j : Int) > 0 := by omega
                            have hj00 : 0 < j := by omega
                            have hjd : decide ((j : Int) > 0) = true := decide_eq_true hjg
                            have hm1 : (j : Int) - 1 = (m : Int) := by omega
                            have hm2 : (m : Int) < (GN.length : Int) := by omega
                            clear hy hx hb hmem hj0 hj hjl hm
                            go_wp2_with fail
                            go_quiet ((go_at_call 16; exact Calls.quiet_of_same (HHA.out _)))
                            go_wp2_with fail
                            exact ⟨⟨j + 1, by omega, by go_num, below_draws HB14.out _⟩, by simp [intOf]; omega⟩
                        · have hjz2 : ¬ (j : Int) < (GN.length : Int) := by omega
                          clear hj hjl hb hwq2
                          go_wp2_with fail
                          obtain ⟨wq3, hwq3⟩ : ∃ wq3, wq3 = wr := ⟨_, rfl⟩
                          go_loopw [27] (fun i wx => ∃ j : Nat, j ≤ S.length ∧ i = .int .i64 j ∧ Below w9.heap.size w9 wx) (fun i _ => S.length - (intOf i).toNat)
                          case atStart => exact ⟨0, Nat.zero_le _, rfl, HB14.out⟩
                          case round =>
                            obtain ⟨j, hj, rfl, hb⟩ := hrel
                            have HB15 : Hid _ := hb
                            by_cases hjl : j < S.length
                            · have hjz : (j : Int) < (S.length : Int) := by omega
                              obtain ⟨s, hs1⟩ : ∃ s, S[j]? = some s := ⟨_, List.getElem?_eq_getElem hjl⟩
                              obtain ⟨g, off, e1, hg, k0⟩ := u64s_cell (HS9.out.here hb) hs1
                              obtain ⟨hnk, gh, oh, ra, rc, e2, hgh, k1, hint⟩ := (HH9.out.here hb).cell hjl hs1
                              subst e1 e2
                              have HHE := held_any (HD9.out.below (below_drew hb)) s
                              rw [P6.out s (List.mem_of_getElem? hs1)] at HHE
                              have HINT : Hid _ := hint
                              have hql : (heldL D s).length ≤ D.length := by unfold heldL; rw [List.length_map]; exact List.length_filter_le _ _
                              have hnz : (j : Int) < (nh : Int) := by omega
                              generalize heldL D s = Q at HHE HINT k1 hql
                              clear hs1 hb hint hnk
                              go_wp2_with fail
                              go_region_held_law (fun W' => W'.cell? ⟨g, off + j, none⟩ = some (.int .u64 s) ∧ W'.cell? ⟨gh, oh + j, none⟩ = some (.slice ra Q.length rc)) (first | go_keep | (refine ⟨?_, ?_⟩ <;> assumption))
                                (first
                                | (go_at_call 19
                                   refine (sameInts_any HN12.out (HINT.out.here HB12.out) (by omega)).mono ?_
                                   rintro r w13 ⟨rfl, q, hw13⟩
                                   have z0 : w13.cell? ⟨g, off + j, none⟩ = some (.int .u64 s) := by rw [hw13]; exact y0
                                   have z1 : w13.cell? ⟨gh, oh + j, none⟩ = some (.slice ra Q.length rc) := by rw [hw13]; exact y1
                                   have HB13 : Hid (Below w9.heap.size w9 w13) := by rw [hw13]; exact below_draws HBN.out q
                                   clear hw13)
                                | (go_at_call 14
                                   refine HHE.mono ?_
                                   rintro r w12 ⟨v12, rfl, hn12, hb12⟩
                                   obtain ⟨a12, c12, e12⟩ := own_slice hn12
                                   subst e12
                                   have y0 := (hb12.cell (p := ⟨g, off + j, none⟩) hg).trans k0
                                   have y1 := (hb12.cell (p := ⟨gh, oh + j, none⟩) hgh).trans k1
                                   have HN12 : Hid (IntsAt w12 (.slice a12 Q.length c12) Q) := RowAt.own hn12
                                   have HB12 : Hid (Below wr.heap.size wr w12) := Below.trans (below_drew (Below.refl _ _)) hb12
                                   have HBN : Hid (Below w9.heap.size w9 w12) := Below.trans (below_drew HB15.out) (hb12.mono (Below.size (below_drew HB15.out)))
                                   clear hn12 hb12))
                              go_wp2_with fail
                              exact ⟨⟨j + 1, by omega, by go_num, HB13.out⟩, by simp [intOf]; omega⟩
                            · have hjz : ¬ (j : Int) < (S.length : Int) := by omega
                              have HLF : Hid (Below w.heap.size w wr) := Below.trans HL9.out (hb.mono (Below.size HL9.out))
                              have HDF : Hid (ListAt w1.heap.size wr b v7 LF) := HD9.out.below hb
                              have HF1 := free_any HDF.out (HS.out.here HLF.out) (by omega) (sort_all S.length (by omega))
                              have hleb : ((LF.length : Int) == (LF.length : Int)) = true := by simp
                              have hs01' : w.heap.size ≤ w1.heap.size := Below.size HB1.out
                              clear hb hj hjl
                              go_wp2_with fail
                              refine HF1.mono ?_
                              rintro e w14 ⟨vp, v14, rfl, hp14, hd14, hk14, ho14⟩
                              rw [P7.out.1] at hp14
                              rw [P7.out.2] at hd14
                              obtain ⟨ap, cp, ep⟩ := own_slice hp14
                              subst ep
                              have HLG : Hid (Below w.heap.size w w14) := Kept.below HLF.out hk14 (Below.size HLF.out) (fun i hi => by have := (HDF.out.its i hi).1; omega)
                              have HD14 : Hid (ListAt w1.heap.size w14 b v14 LF) := hd14
                              have hN0 : U64At w14 (.slice none 0 0) [] := RowAt.own (base := 0) (e := 32) (World.ownsRow_nil _ _ _ _)
                              have HF2 := free_any HD14.out hN0 (by simp) (sort_all 0 (by omega))
                              have hgle : (goneL LF []).length ≤ LF.length := gone_length LF []
                              clear hp14 hd14 hk14 ho14 HF1 hN0
                              go_wp2_with fail
                              refine HF2.mono ?_
                              rintro e w15 ⟨vr, v15, rfl, hp15, hd15, hk15, ho15⟩
                              rw [left_none] at hd15
                              obtain ⟨ar, cr, er⟩ := own_slice hp15
                              subst er
                              have HLH : Hid (Below w.heap.size w w15) := Kept.below HLG.out hk15 (Below.size HLG.out) (fun i hi => by have := (HD14.out.its i hi).1; omega)
                              have HC := count_any hd15
                              have hgz : ((goneL LF []).length : Int) ≤ (LF.length : Int) := by omega
                              clear hp15 hd15 hk15 ho15 HF2
                              go_wp2_with (go_at_call 12; refine HC.mono ?_; rintro e w16 ⟨rfl, hw16⟩; obtain rfl := hw16.symm)
                              go_ret
                              exact ⟨rfl, HLH.out⟩
end Go.Proofs.Ytcfmcakdgamdmaa
