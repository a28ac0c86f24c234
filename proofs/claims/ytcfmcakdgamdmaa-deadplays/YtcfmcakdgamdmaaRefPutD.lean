/- The document's Put. -/
import Derived.Test.YtcfmcakdgamdmaaRefHeldD
namespace Go.Proofs.Ytcfmcakdgamdmaa
open Go.RowKit

/-- What the document's Put leaves. -/
structure RPutPost (B : Nat) (w : World) (b : Nat) (v : Value) (L : List Lf) (x : Lf) (r : Ending) (w' : World) : Prop where
  is : ∃ v', r = .returned (.int .i64 (putE L x)) ∧ RefAt B w' b v' (putL L x) ∧ Kept (fun k => k = b) w w' ∧ ∀ k, v'.ownBlock = some k → v.ownBlock = some k ∨ w.heap.size ≤ k
theorem rput_bad {B : Nat} {w w' : World} {b : Nat} {v : Value} {L : List Lf} {x : Lf} (h : RefAt B w b v L) (hb : Below w.heap.size w w') (z : Int) (hz : putE L x = z) (h0 : z ≠ 0) : RPutPost B w b v L x (.returned (.int .i64 z)) w' := by
  refine ⟨v, by rw [hz], ?_, Kept.of_below hb, fun k hk => .inl hk⟩
  have : putL L x = L := by unfold putL; rw [if_neg (by rw [hz]; exact h0)]
  rw [this]
  exact h.below hb
theorem rput_good {B : Nat} {w w6 : World} {b : Nat} {v v6 : Value} {L : List Lf} {x : Lf} (h : RefAt B w b v L) (hB : B ≤ w.heap.size) (hb : Below w.heap.size w w6) (hn : NewL w.heap.size w6 v6 (putL L x)) (h0 : putE L x = 0) : RPutPost B w b v L x (.returned (.int .i64 0)) (w6.setCell ⟨b, 0, none⟩ v6) := by
  have hk : w6.heap[b]? = some (.cells #[v] 73 (0, 0)) := (h.below hb).cells
  have hne : v6.ownBlock ≠ some b := fun e => by
    have := (own_type hn b e).2.1
    have := h.lt
    omega
  refine ⟨v6, by rw [h0], ⟨?_, ?_, h.low⟩, (Kept.of_below hb).trans (setCell_kept v6) (fun i _ hi => hi), fun k hk => .inr (own_type hn k hk).2.1⟩
  · have := heap_set_same (i := 0) v6 hk
    simpa using this
  · exact own_mono (own_kept hn (setCell_kept v6) (fun i hi e => hne (by rw [hi, e]))) hB
theorem atL_step {L : List Lf} (h : OkL L) {x y : Lf} {k : Nat} (hy : L[k]? = some y) : min (k + 1) (atL L x) = if ltL y x then k + 1 else min k (atL L x) := by
  have hp := place_of h x
  have hk := (List.getElem?_eq_some_iff.1 hy).1
  by_cases hlt : ltL y x
  · rw [if_pos hlt]
    have : k < atL L x := by
      rcases Nat.lt_or_ge k (atL L x) with h1 | h1
      · exact h1
      · exact absurd hlt (hp.high k y h1 hy)
    omega
  · rw [if_neg hlt]
    have : ¬ k < atL L x := fun h1 => hlt (hp.low k y h1 hy)
    omega
set_option maxHeartbeats 3200000 in
set_option maxRecDepth 100000 in
theorem refPut_any {B : Nat} {w : World} {b : Nat} {v : Value} {L : List Lf} {x : Lf} (h : RefAt B w b v L) (hok : OkL L) (hB : B ≤ w.heap.size) (hlen : (L.length + 1) * 24 ≤ 140737488355328) :
    Calls Try.prog 23 #[.pointer (some ⟨b, 0, none⟩), .agg #[.int .i64 x.p, .int .u64 x.b, .int .u64 x.d]] w fun r w' => RPutPost B w b v L x r w' := by
  have HB0 : Hid (Below w.heap.size w (w.alloc (.cells #[.int .i64 x.p, .int .u64 x.b, .int .u64 x.d] 34))) := below_new w _
  have H : Hid _ := h
  by_cases h1 : x.p < 2
  · have HE : Hid (putE L x = 101) := by show _ = _; unfold putE; rw [if_pos (fun hs => by unfold spanL at hs; omega)]
    clear h
    go_enter Try.func23, Try.ntmps23
    go_wp2
    go_ret
    exact rput_bad H.out HB0.out _ HE.out (by decide)
  have h1 : ¬ x.p < 2 := h1
  by_cases h2 : 65536 ≤ x.p
  · have HE : Hid (putE L x = 101) := by show _ = _; unfold putE; rw [if_pos (fun hs => by unfold spanL at hs; omega)]
    have h2' : x.p ≥ 65536 := h2
    clear h
    go_enter Try.func23, Try.ntmps23
    go_wp2
    go_ret
    exact rput_bad H.out HB0.out _ HE.out (by decide)
  by_cases h3 : x.d ≤ x.b
  · have HE : Hid (putE L x = 101) := by show _ = _; unfold putE; rw [if_pos (fun hs => by unfold spanL at hs; omega)]
    have h2' : ¬ x.p ≥ 65536 := h2
    clear h
    go_enter Try.func23, Try.ntmps23
    go_wp2
    go_ret
    exact rput_bad H.out HB0.out _ HE.out (by decide)
  have HSP : Hid (spanL x) := by show spanL x; unfold spanL; omega
  have h2' : ¬ x.p ≥ 65536 := h2
  obtain ⟨W, hW⟩ : ∃ W, W = w.alloc (.cells #[.int .i64 x.p, .int .u64 x.b, .int .u64 x.d] 34) := ⟨_, rfl⟩
  have HXC : Hid (W.heap[w.heap.size]? = some (.cells #[.int .i64 x.p, .int .u64 x.b, .int .u64 x.d] 34 (0, 0))) := by rw [hW]; exact heap_alloc_last w _
  have HBW : Hid (Below w.heap.size w W) := by rw [hW]; exact below_new w _
  have hszW : W.heap.size = w.heap.size + 1 := by rw [hW]; simp
  have HSZ : Hid (W.heap.size = w.heap.size + 1) := hszW
  have HRW : Hid (RefAt B W b v L) := h.below HBW.out
  obtain ⟨a, c, rfl⟩ := own_slice h.row
  have HOK : Hid (OkL L) := hok
  clear h hok hszW
  go_enter Try.func23, Try.ntmps23
  go_wp2_with fail
  rw [← hW]
  clear hW HB0
  go_loopw [5, 6] (fun at' i wx => ∃ k : Nat, k ≤ L.length ∧ i = .int .i64 k ∧ at' = .int .i64 (min k (atL L x) : Nat) ∧ (∀ y ∈ L.take k, ¬ meets y x) ∧ Below W.heap.size W wx) (fun _ i _ => L.length - (intOf i).toNat)
  case atStart => exact ⟨0, Nat.zero_le _, rfl, by simp, by simp, Below.refl _ _⟩
  case round =>
    obtain ⟨k, hk, rfl, rfl, hno, hbl⟩ := hrel
    have HNO : Hid (∀ y ∈ L.take k, ¬ meets y x) := hno
    have HB : Hid (Below W.heap.size W wr) := hbl
    have HRR : Hid (RefAt B wr b (.slice a L.length c) L) := HRW.out.below hbl
    have c0 := HRR.out.cell
    have hxl : w.heap.size < wr.heap.size := by have := HSZ.out; have := hbl.size; omega
    have hxc : wr.heap[w.heap.size]? = some (.cells #[.int .i64 x.p, .int .u64 x.b, .int .u64 x.d] 34 (0, 0)) := (hbl.block _ (by have := HSZ.out; omega)).trans HXC.out
    have x0 : wr.cell? ⟨w.heap.size, 0, none⟩ = some (.int .i64 x.p) := row_cell hxc 0
    have x1 : wr.cell? ⟨w.heap.size, 1, none⟩ = some (.int .u64 x.b) := row_cell hxc 1
    have x2 : wr.cell? ⟨w.heap.size, 2, none⟩ = some (.int .u64 x.d) := row_cell hxc 2
    by_cases hlt : k < L.length
    · have hltz : (k : Int) < (L.length : Int) := by omega
      obtain ⟨y, hy⟩ : ∃ y, L[k]? = some y := ⟨_, List.getElem?_eq_getElem hlt⟩
      have HY : Hid (L[k]? = some y) := hy
      obtain ⟨g, off, rfl, hg, k0, k1, k2⟩ := lives_cell (RowAt.own HRR.out.row) hy
      obtain ⟨wa, hwa⟩ : ∃ wa, wa = wr.alloc (.cells #[.int .i64 y.p, .int .u64 y.b, .int .u64 y.d] 34) := ⟨_, rfl⟩
      have hya : wa.heap[wr.heap.size]? = some (.cells #[.int .i64 y.p, .int .u64 y.b, .int .u64 y.d] 34 (0, 0)) := by rw [hwa]; exact heap_alloc_last wr _
      have hba : Below wr.heap.size wr wa := by rw [hwa]; exact below_new wr _
      have y0 : wa.cell? ⟨wr.heap.size, 0, none⟩ = some (.int .i64 y.p) := row_cell hya 0
      have y1 : wa.cell? ⟨wr.heap.size, 1, none⟩ = some (.int .u64 y.b) := row_cell hya 1
      have y2 : wa.cell? ⟨wr.heap.size, 2, none⟩ = some (.int .u64 y.d) := row_cell hya 2
      have z0 := (below_cell hba hxl).trans x0
      have z1 := (below_cell hba hxl).trans x1
      have z2 := (below_cell hba hxl).trans x2
      have HBA : Hid (Below W.heap.size W wa) := hbl.trans (hba.mono hbl.size)
      have HWA : Hid (wr.alloc (.cells #[.int .i64 y.p, .int .u64 y.b, .int .u64 y.d] 34) = wa) := hwa.symm
      have HLS : Hid (∀ W', Calls Try.prog 40 #[.agg #[.int .i64 y.p, .int .u64 y.b, .int .u64 y.d], .agg #[.int .i64 x.p, .int .u64 x.b, .int .u64 x.d]] W' fun e w' => e = .returned (.bool (decide (ltL y x))) ∧ Below W'.heap.size W' w') := fun W' => refLess_any W' y x
      have HST : Hid (min (k + 1) (atL L x) = if ltL y x then k + 1 else min k (atL L x)) := atL_step HOK.out hy
      clear hno hbl hy hya hba hwa hxc
      by_cases hm : meets y x
      · have HE : Hid (putE L x = 102) := putE_meets HSP.out (List.mem_of_getElem? HY.out) hm
        have q1 : (y.p == x.p) = true := by simpa using hm.1
        have q2 : y.b < x.d := hm.2.1
        have q3 : x.b < y.d := hm.2.2
        have HBF : Hid (Below w.heap.size w (wr.alloc (.cells #[.int .i64 y.p, .int .u64 y.b, .int .u64 y.d] 34))) := by
          rw [HWA.out]
          exact HBW.out.trans (HBA.out.mono HBW.out.size)
        clear hm
        go_wp2_with fail
        go_ret
        exact rput_bad H.out HBF.out _ HE.out (by decide)
      · have HNX : Hid (∀ z ∈ L.take (k + 1), ¬ meets z x) := fun z hz => by
          rw [List.take_add_one, HY.out] at hz
          rcases List.mem_append.1 hz with hz | hz
          · exact HNO.out z hz
          · simp at hz
            subst hz
            exact hm
        have hq : (y.p == x.p) = false ∨ ((y.p == x.p) = true ∧ ¬ y.b < x.d) ∨ ((y.p == x.p) = true ∧ y.b < x.d ∧ ¬ x.b < y.d) := by
          unfold meets at hm
          by_cases e : y.p = x.p
          · right
            have e' : (y.p == x.p) = true := by simpa using e
            by_cases e2 : y.b < x.d
            · exact .inr ⟨e', e2, fun e3 => hm ⟨e, e2, e3⟩⟩
            · exact .inl ⟨e', e2⟩
          · exact .inl (by simpa using e)
        clear hm
        by_cases hl : ltL y x
        · have hld : decide (ltL y x) = true := by simpa using hl
          rw [hld] at HLS
          have HAT : Hid (((k + 1 : Nat) : Int) = ((min (k + 1) (atL L x) : Nat) : Int)) := by
            have := HST.out
            rw [if_pos hl] at this
            rw [Hid, this]
          clear hl hld
          rcases hq with q1 | ⟨q1, q2⟩ | ⟨q1, q2, q3⟩
          all_goals
            go_wp2_with fail
            rw [HWA.out]
            refine Calls.mono (HLS.out _) ?_
            rintro e w3 ⟨rfl, hb3⟩
            have HB3 : Hid (Below W.heap.size W w3) := HBA.out.trans (hb3.mono HBA.out.size)
            clear hb3
            go_wp2_with fail
            exact ⟨⟨k + 1, by omega, by go_num, by rw [← HAT.out]; go_num, HNX.out, HB3.out⟩, by simp [intOf]; omega⟩
        · have hld : decide (ltL y x) = false := by simpa using hl
          rw [hld] at HLS
          have HAT : Hid (((min k (atL L x) : Nat) : Int) = ((min (k + 1) (atL L x) : Nat) : Int)) := by
            have := HST.out
            rw [if_neg hl] at this
            rw [Hid, this]
          clear hl hld
          rcases hq with q1 | ⟨q1, q2⟩ | ⟨q1, q2, q3⟩
          all_goals
            go_wp2_with fail
            rw [HWA.out]
            refine Calls.mono (HLS.out _) ?_
            rintro e w3 ⟨rfl, hb3⟩
            have HB3 : Hid (Below W.heap.size W w3) := HBA.out.trans (hb3.mono HBA.out.size)
            clear hb3
            go_wp2_with fail
            exact ⟨⟨k + 1, by omega, by go_num, by rw [← HAT.out], HNX.out, HB3.out⟩, by simp [intOf]; omega⟩
    · have hltz : ¬ (k : Int) < (L.length : Int) := by omega
      obtain rfl : k = L.length := by omega
      have hat := (place_of HOK.out x).le
      have HE : Hid (putE L x = 0) := by
        show _ = _
        unfold putE
        rw [if_neg (by simpa using HSP.out), if_neg]
        rintro ⟨z, hz, hm⟩
        exact HNO.out z (by rw [List.take_of_length_le (Nat.le_refl _)]; exact hz) hm
      have HPL : Hid (putL L x = insL L x) := by show _ = _; unfold putL; rw [if_pos HE.out]
      have HMN : Hid (min L.length (atL L x) = atL L x) := by rw [Hid]; omega
      rw [HMN.out]
      have HIN : Hid (insL L x = (L.take (atL L x) ++ [x]) ++ L.drop (atL L x)) := by rw [Hid]; unfold insL; simp
      generalize hp : atL L x = p at *
      have HP : Hid (p ≤ L.length) := hat
      have hpz : (p : Int) ≤ (L.length : Int) := by omega
      have f0 : wr.frozen? ⟨b, 0, none⟩ = false := row_frozen HRR.out.cells _
      have HLA : Hid (LivesAt wr (.slice a L.length c) L) := RowAt.own HRR.out.row
      have hcap : L.length ≤ c := by
        obtain ⟨⟨a0, c0', e, h1, _⟩, _⟩ := HLA.out
        cases e
        exact h1
      have hbw : w.heap.size ≤ wr.heap.size := by omega
      have HLN : Hid ((L.length + 1) * 24 ≤ 140737488355328) := hlen
      have HBW2 : Hid (Below w.heap.size w wr) := HBW.out.trans (HB.out.mono HBW.out.size)
      clear hno hbl hxc hlt hk hp hat
      go_upto_region 16 with (first
        | (at_builtin
           refine wpList_append_lives rfl _ _ rfl w.heap.size (.slice none 0 0) [] rfl (World.ownsRow_nil _ _ _ _) (.slice a p c) (L.take p) rfl (HLA.out.take p HP.out) (by have := HLN.out; have := HP.out; simp only [List.length_nil, List.length_take]; omega) hbw ?_
           intro v1 w1 hv1 hg1 hk1
           have HV1 : Hid (NewL w.heap.size w1 v1 (L.take p)) := hv1
           have HB1 : Hid (Below wr.heap.size wr w1) := ⟨hg1.os, hg1.tape, hg1.output, hg1.size, fun k hk => hg1.block k hk (fun e => by cases e)⟩
           have z0 := (below_cell HB1.out hxl).trans x0
           have z1 := (below_cell HB1.out hxl).trans x1
           have z2 := (below_cell HB1.out hxl).trans x2
           have HO2 : Hid (NewL w.heap.size (w1.alloc (.cells #[.int .i64 x.p, .int .u64 x.b, .int .u64 x.d] 34)) v1 (L.take p)) := own_here hv1 (below_new _ _)
           have HN2 : Hid (w.heap.size ≤ w1.heap.size) := Nat.le_trans hbw HB1.out.size
           clear hv1 hg1 hk1)
        | (at_builtin
           refine wpList_append_life rfl _ _ rfl w.heap.size v1 (L.take p) x rfl HO2.out w1.heap.size rfl (heap_alloc_last w1 _) (by have := HLN.out; have := HP.out; simp only [List.length_take]; omega) (Nat.le_trans HN2.out (below_new w1 _).size) ?_
           intro v2 w2 hv2 hg2 hk2
           have HV2 : Hid (NewL w.heap.size w2 v2 (L.take p ++ [x])) := hv2
           have HB2 : Hid (Below w.heap.size w w2) := (HBW2.out.trans (HB1.out.mono hbw)).trans (((below_new w1 _).mono HN2.out).trans hk2.low)
           clear hv2 hg2 hk2
           have q0 := (H.out.below HB2.out).cell
           have g0 : w2.frozen? ⟨b, 0, none⟩ = false := row_frozen (H.out.below HB2.out).cells _
           have HLA2 : Hid (LivesAt w2 (.slice a L.length c) L) := RowAt.own (H.out.below HB2.out).row))
      clear x0 x1 x2 z0 z1 z2 c0 f0
      have HEND : Hid (∀ v3 w3, NewL w.heap.size w3 v3 ((L.take p ++ [x]) ++ L.drop p) → Below w.heap.size w2 w3 → RPutPost B w b (.slice a L.length c) L x (.returned (.int .i64 0)) (w3.setCell ⟨b, 0, none⟩ v3)) := fun v3 w3 hv3 hb3 => rput_good H.out hB (HB2.out.trans hb3) (by rw [HPL.out, HIN.out]; exact hv3) HE.out
      have HLT : Hid (b < w2.heap.size) := (H.out.below HB2.out).lt
      have HL2 : Hid ((L.take p ++ [x]).length = p + 1 ∧ (L.drop p).length = L.length - p) := ⟨by have := HP.out; simp; omega, by simp⟩
      have HBL : Hid (w.heap.size ≤ w2.heap.size) := HB2.out.size
      by_cases hpl : p < L.length
      · obtain ⟨g, rfl⟩ : ∃ g, a = some ⟨g, 0, none⟩ := by
          rcases own_row H.out.row with ⟨_, e⟩ | ⟨g, c', e, _⟩
          · omega
          · cases e; exact ⟨g, rfl⟩
        have hcp : ¬ c = p := by omega
        have HSRC : Hid (LivesAt w2 (.slice (some ⟨g, p * 3, none⟩) (L.length - p) (c - p)) (L.drop p)) := HLA2.out.drop rfl HP.out (fun g' o' e _ => by cases e; simp) (by omega) (fun e => by cases e)
        go_wp2_with (first
          | (at_builtin
             refine wpList_append_lives rfl _ _ rfl w.heap.size v2 (L.take p ++ [x]) rfl HV2.out _ (L.drop p) rfl HSRC.out (by have := HLN.out; have := HL2.out; omega) HBL.out ?_
             intro v3 w3 hv3 hg3 hk3
             obtain ⟨a3, n3, c3, e3⟩ : ∃ a n c, v3 = Value.slice a n c := (by obtain ⟨a, c, e⟩ := own_slice hv3; exact ⟨_, _, _, e⟩)
             subst e3
             have HV3 : Hid (NewL w.heap.size w3 (.slice a3 n3 c3) ((L.take p ++ [x]) ++ L.drop p)) := hv3
             have HB3 : Hid (Below w.heap.size w2 w3) := hk3.low
             have r0 : w3.cell? ⟨b, 0, none⟩ = some (.slice (some ⟨g, 0, none⟩) L.length c) := (H.out.below (HB2.out.trans hk3.low)).cell
             have r1 : w3.frozen? ⟨b, 0, none⟩ = false := row_frozen (H.out.below (HB2.out.trans hk3.low)).cells _
             clear hv3 hg3 hk3))
        go_ret
        exact HEND.out _ _ HV3.out HB3.out
      · have hpe : p = L.length := by have := HP.out; omega
        have HD : Hid (L.drop p = []) := by rw [hpe]; exact List.drop_of_length_le (Nat.le_refl _)
        have hcc : (a = none ∧ c = 0 ∧ p = 0) ∨ ∃ g, a = some ⟨g, 0, none⟩ := by
          rcases own_row H.out.row with ⟨e, e0⟩ | ⟨g, c', e, _⟩
          · simp only [Value.slice.injEq] at e
            exact .inl ⟨e.1, e.2.2, by omega⟩
          · cases e; exact .inr ⟨g, rfl⟩
        have HNZ : Hid (∀ a' c', (a' = none → c' = 0) → LivesAt w2 (.slice a' 0 c') []) := fun a' c' h => ⟨⟨a', c', rfl, Nat.zero_le _, h, fun j u hj => by simp [flatL] at hj⟩, rfl⟩
        rw [HD.out] at HEND
        rw [← hpe] at q0
        have hlp : L.length = p := hpe.symm
        rw [hlp] at H HEND ⊢
        clear hpe hcap hpz hpl
        rcases hcc with ⟨rfl, rfl, rfl⟩ | ⟨g, rfl⟩
        · go_wp2_with (first
            | (at_builtin
               refine wpList_append_lives rfl _ _ rfl w.heap.size v2 (L.take 0 ++ [x]) rfl HV2.out _ [] rfl (HNZ.out _ _ (fun _ => rfl)) (by simp) HBL.out ?_
               intro v3 w3 hv3 hg3 hk3
               obtain ⟨a3, n3, c3, e3⟩ : ∃ a n c, v3 = Value.slice a n c := (by obtain ⟨a, c, e⟩ := own_slice hv3; exact ⟨_, _, _, e⟩)
               subst e3
               have HV3 : Hid (NewL w.heap.size w3 (.slice a3 n3 c3) ((L.take 0 ++ [x]) ++ [])) := hv3
               have HB3 : Hid (Below w.heap.size w2 w3) := hk3.low
               have r0 : w3.cell? ⟨b, 0, none⟩ = some (.slice none 0 0) := (H.out.below (HB2.out.trans hk3.low)).cell
               have r1 : w3.frozen? ⟨b, 0, none⟩ = false := row_frozen (H.out.below (HB2.out.trans hk3.low)).cells _
               clear hv3 hg3 hk3))
          go_ret
          exact HEND.out _ _ HV3.out HB3.out
        · by_cases hcp : c = p
          · obtain rfl := hcp.symm
            go_wp2_with (first
              | (at_builtin
                 refine wpList_append_lives rfl _ _ rfl w.heap.size v2 (L.take p ++ [x]) rfl HV2.out _ [] rfl (HNZ.out _ _ (fun e => by cases e)) (by have := HLN.out; have := HL2.out.1; simp only [List.length_nil]; omega) HBL.out ?_
                 intro v3 w3 hv3 hg3 hk3
                 obtain ⟨a3, n3, c3, e3⟩ : ∃ a n c, v3 = Value.slice a n c := (by obtain ⟨a, c, e⟩ := own_slice hv3; exact ⟨_, _, _, e⟩)
                 subst e3
                 have HV3 : Hid (NewL w.heap.size w3 (.slice a3 n3 c3) ((L.take p ++ [x]) ++ [])) := hv3
                 have HB3 : Hid (Below w.heap.size w2 w3) := hk3.low
                 have r0 : w3.cell? ⟨b, 0, none⟩ = some (.slice (some ⟨g, 0, none⟩) p p) := (H.out.below (HB2.out.trans hk3.low)).cell
                 have r1 : w3.frozen? ⟨b, 0, none⟩ = false := row_frozen (H.out.below (HB2.out.trans hk3.low)).cells _
                 clear hv3 hg3 hk3))
            go_ret
            exact HEND.out _ _ HV3.out HB3.out
          · go_wp2_with (first
              | (at_builtin
                 refine wpList_append_lives rfl _ _ rfl w.heap.size v2 (L.take p ++ [x]) rfl HV2.out _ [] rfl (HNZ.out _ _ (fun e => by cases e)) (by have := HLN.out; have := HL2.out.1; simp only [List.length_nil]; omega) HBL.out ?_
                 intro v3 w3 hv3 hg3 hk3
                 obtain ⟨a3, n3, c3, e3⟩ : ∃ a n c, v3 = Value.slice a n c := (by obtain ⟨a, c, e⟩ := own_slice hv3; exact ⟨_, _, _, e⟩)
                 subst e3
                 have HV3 : Hid (NewL w.heap.size w3 (.slice a3 n3 c3) ((L.take p ++ [x]) ++ [])) := hv3
                 have HB3 : Hid (Below w.heap.size w2 w3) := hk3.low
                 have r0 : w3.cell? ⟨b, 0, none⟩ = some (.slice (some ⟨g, 0, none⟩) p c) := (H.out.below (HB2.out.trans hk3.low)).cell
                 have r1 : w3.frozen? ⟨b, 0, none⟩ = false := row_frozen (H.out.below (HB2.out.trans hk3.low)).cells _
                 clear hv3 hg3 hk3))
            go_ret
            exact HEND.out _ _ HV3.out HB3.out
end Go.Proofs.Ytcfmcakdgamdmaa
