/- step: Held and Lives. -/
import Derived.Test.YtcfmcakdgamdmaaStepD
namespace Go.Proofs.Ytcfmcakdgamdmaa
open Go.RowKit

theorem below_drew2 {w w' : World} (h : Below w.drew.heap.size w.drew w') : Below w.heap.size w w' := (below_drew (Below.refl _ _)).trans h
set_option maxHeartbeats 3200000 in
set_option maxRecDepth 100000 in
theorem step_held {B m : Nat} {w : World} {W : Nat} {cs rs : Nat → Nat} {va vb : Nat → Value} {LS : Nat → List Lf} {P Q : List (Value × List Int)} {X Y : List (Value × List Lf)} {on sn : Int} {x : Lf} {sv : Value} {K : Nat} (h : Wst B m w W cs rs va vb LS LS P Q X Y) (hm : 0 < m) (hmb : m ≤ 1954687338269) (ho : (Lit.int .i64 on).wf = true) (hsv : ∃ a n c, sv = .slice a n c) (hsP : P.map (·.2) = Q.map (·.2)) (hsX : X.map (·.2) = Y.map (·.2)) (hK : ∀ j, (LS j).length ≤ K) (hKb : K + 1 ≤ 1954687338269) (hPb : P.length + 2 ≤ 4398046511104) :
    Calls Try.prog 8 #[ptr W, .agg #[.int .i64 4, .int .i64 on, .int .i64 x.p, .int .u64 x.b, .int .u64 x.d, sv, .int .u64 sn]] w fun r w' => r = .returned (.bool true) ∧ After B m w W cs rs LS P X w' 0 2 0 K := by
  obtain ⟨sa, sl, sc, rfl⟩ := hsv
  obtain ⟨wo, hwo⟩ : ∃ wo, wo = w.alloc (.cells #[.int .i64 4, .int .i64 on, .int .i64 x.p, .int .u64 x.b, .int .u64 x.d, .slice sa sl sc, .int .u64 sn] 37) := ⟨_, rfl⟩
  have HBO : Hid (Below w.heap.size w wo) := by rw [hwo]; exact below_new _ _
  have HOC : Hid (wo.heap[w.heap.size]? = some (.cells #[.int .i64 4, .int .i64 on, .int .i64 x.p, .int .u64 x.b, .int .u64 x.d, .slice sa sl sc, .int .u64 sn] 37 (0, 0))) := by rw [hwo]; exact heap_alloc_last _ _
  have HWO : Hid (Wst B m wo W cs rs va vb LS LS P Q X Y) := h.below HBO.out
  have HBW : Hid (B ≤ w.heap.size) := h.hB
  have hb : -9223372036854775808 ≤ on ∧ on ≤ 9223372036854775807 := by simpa [Lit.wf, IntKind.min, IntKind.max, IntKind.bits, IntKind.signed] using ho
  have hnz : ((m : Int) == 0) = false := by rw [beq_eq_false_iff_ne]; omega
  have HM : Hid (0 < m) := hm
  have hmz : (m : Int) ≤ 1954687338269 := by omega
  clear ho
  obtain ⟨o0, o1, o2, o3, o4, o5, o6⟩ := op7 HOC.out
  have hlo : w.heap.size < wo.heap.size := (Array.getElem?_eq_some_iff.1 HOC.out).1
  have hcase : (∃ n : Nat, on = (n : Int) ∧ ¬ on < 0) ∨ ∃ n : Nat, on = -(n : Int) - 1 ∧ on < 0 := by
    by_cases h0 : on < 0
    · exact .inr ⟨(-(on + 1)).toNat, by omega, h0⟩
    · exact .inl ⟨on.toNat, by omega, h0⟩
  have HLT : Hid (W < wo.heap.size) := HWO.out.lt
  clear h hm
  rcases hcase with ⟨n, rfl, hsg⟩ | ⟨n, rfl, hsg⟩
  all_goals
    have hmm : (n : Int).tmod (m : Int) = ((n % m : Nat) : Int) := by rw [Int.tmod_eq_emod_of_nonneg (by omega)]; rfl
    have HP : Hid (n % m < m) := Nat.mod_lt _ HM.out
    generalize n % m = i at *
    obtain ⟨gl, cl, gr, cr, f0, f1, f2, f3⟩ := (HWO.out.find HP.out).is
    have hiz : (i : Int) < (m : Int) := by have := HP.out; omega
    go_enter Try.func8, Try.ntmps8
    go_upto_region 1 with fail
    rw [← hwo]
    clear hwo
    generalize w.heap.size = b at *
    go_wp2_with fail
    have HSP : Hid _ := hsP
    have HSX : Hid _ := hsX
    have HK : Hid (∀ j, (LS j).length ≤ K) := hK
    have HKB : Hid (K + 1 ≤ 1954687338269) := hKb
    --  : Hid (Wst B m wo.drew W cs rs va vb LS LS P Q X Y) := HWO.out.below (Below.refl _ _).drew
    obtain ⟨ON, hON⟩ : ∃ ON : Int, wo.heap[b]? = some (.cells #[.int .i64 4, .int .i64 ON, .int .i64 x.p, .int .u64 x.b, .int .u64 x.d, .slice sa sl sc, .int .u64 sn] 37 (0, 0)) := ⟨_, HOC.out⟩
    have HOz0 : Hid (wo.heap[b]? = some (.cells #[.int .i64 4, .int .i64 ON, .int .i64 x.p, .int .u64 x.b, .int .u64 x.d, .slice sa sl sc, .int .u64 sn] 37 (0, 0))) := hON
    have Hz0 : Hid (Wst B m wo W cs rs va vb LS LS P Q X Y) := HWO.out
    have HBz0 : Hid (Below B w wo) := HBO.out.mono HBW.out
    have HQL : Hid (Q.length = P.length) := by have := congrArg List.length HSP.out; rw [Hid]; simpa using this.symm
    have HE0 : Hid (P.map (·.2) = Q.map (·.2)) := HSP.out
    have HLN0 : Hid (P.length ≤ 4398046511104 ∧ Q.length ≤ 4398046511104) := ⟨by omega, by have := HQL.out; omega⟩
    have hlo0 : b < wo.heap.size := hlo
    clear hON HOC hlo o0 o1 o2 o3 o4 o5 f0 f1 f2 f3
    have s6 : wo.cell? ⟨b, 6, none⟩ = some (.int .u64 sn) := o6
    clear o6
    -- once more
    have HX : Hid (Wst B m wo.drew W cs rs va vb LS LS P Q X Y) := Hz0.out.below (Below.refl _ _).drew
    have HXL : Hid (∀ p ∈ P ++ Q, ∀ k, p.1.ownBlock = some k → k < wo.heap.size) := fun p hp k hk => by
      rcases List.mem_append.1 hp with hp | hp
      · exact (own_type (Hz0.out.core.oP p hp) k hk).1
      · exact (own_type (Hz0.out.core.oQ p hp) k hk).1
    have HCA : Hid (Calls Try.prog 14 #[ptr (cs i), .int .u64 sn] wo.drew fun e w' => ∃ v', e = .returned v' ∧ NewI wo.drew.heap.size w' v' (heldL (LS i) sn) ∧ Below wo.drew.heap.size wo.drew w') := held_any (HX.out.core.ls i HP.out) sn
    go_region_held_law (fun W' => W'.cell? ⟨b, 6, none⟩ = some (.int .u64 sn)) (first | (with_reducible assumption) | (go_keep; done))
      (first
        | (go_at_call 25
           refine Calls.mono HCP.out ?_
           rintro r z1 ⟨rfl, hw5, hs5, hb5⟩
           have Hz1' : Hid (Wst B m z1 W cs rs va vb LS LS (P ++ [(.slice a3 n3 c3, heldL (LS i) sn)]) (Q ++ [(.slice a4 n4 c4, heldL (LS i) sn)]) X Y) := hw5
           have HBz1 : Hid (Below B w z1) := (Below.trans HBz0.out (Below.mono HB4.out Hz0.out.hB)).trans hb5
           have HOz1 : Hid (z1.heap[b]? = some (.cells #[.int .i64 4, .int .i64 ON, .int .i64 x.p, .int .u64 x.b, .int .u64 x.d, .slice sa sl sc, .int .u64 sn] 37 (0, 0))) := op_stay ((HB4.out.block b hlo0).trans HOz0.out) hs5
           have q6 : z1.cell? ⟨b, 6, none⟩ = some (.int .u64 sn) := (op7 HOz1.out).2.2.2.2.2.2
           clear hw5 hs5 hb5)
        | (go_at_call 26
           refine Calls.mono HCB.out ?_
           rintro r w4 ⟨v4, rfl, hn4, hb4⟩
           obtain ⟨a4, n4, c4, e4⟩ : ∃ a n c, v4 = Value.slice a n c := (by obtain ⟨a, c, e⟩ := own_slice hn4; exact ⟨_, _, _, e⟩)
           subst e4
           have HN4 : Hid (NewI w3.heap.size w4 (.slice a4 n4 c4) (heldL (LS i) sn)) := hn4
           have HM4 : Hid (NewI wo.heap.size w4 (.slice a3 n3 c3) (heldL (LS i) sn)) := own_here HN3.out hb4
           have HX4 : Hid (Wst B m w4 W cs rs va vb LS LS P Q X Y) := HX3.out.below hb4
           have HB4 : Hid (Below wo.heap.size wo w4) := Below.trans HB3.out (Below.mono hb4 (Below.size HB3.out))
           have HV2L : Hid (∀ k, (Value.slice a4 n4 c4).ownBlock = some k → w3.heap.size ≤ k) := fun k hk => (own_type HN4.out k hk).2.1
           have u6 : w4.cell? ⟨b, 6, none⟩ = some (.int .u64 sn) := (below_cell HB4.out hlo0).trans s6
           have HCP : Hid (Calls Try.prog 25 #[ptr W, .slice a3 n3 c3, .slice a4 n4 c4] w4 fun r w' => r = .returned (.bool true) ∧ Wst B m w' W cs rs va vb LS LS (P ++ [(.slice a3 n3 c3, heldL (LS i) sn)]) (Q ++ [(.slice a4 n4 c4, heldL (LS i) sn)]) X Y ∧ Stay w4 w' ∧ Below B w4 w') :=
             law_pages_any HX4.out (own_mono HM4.out Hz0.out.hB) (own_mono HN4.out (Nat.le_trans Hz0.out.hB HZ3.out)) (fun p hp k hk e => by have h1 := (HV1L.out k hk).1; have h2 := HXL.out p hp k e; omega) (fun p hp k hk e => by have h1 := HV2L.out k hk; have h2 := HXL.out p (List.mem_append.2 (.inl hp)) k e; have := HZ3.out; omega) (fun k hk e => by have h1 := (HV1L.out k hk).2; have h2 := HV2L.out k e; omega)
               HLN0.out.1 HLN0.out.2 (by have := held_len (LS i) sn; have := HK.out i; have := HKB.out; omega)
           clear hn4 hb4)
        | (go_at_call 14
           refine Calls.mono HCA.out ?_
           rintro r w3 ⟨v3, rfl, hn3, hb3⟩
           obtain ⟨a3, n3, c3, e3⟩ : ∃ a n c, v3 = Value.slice a n c := (by obtain ⟨a, c, e⟩ := own_slice hn3; exact ⟨_, _, _, e⟩)
           subst e3
           have HN3 : Hid (NewI wo.heap.size w3 (.slice a3 n3 c3) (heldL (LS i) sn)) := hn3
           have HX3 : Hid (Wst B m w3 W cs rs va vb LS LS P Q X Y) := HX.out.below hb3
           have HB3 : Hid (Below wo.heap.size wo w3) := below_drew2 hb3
           have HV1L : Hid (∀ k, (Value.slice a3 n3 c3).ownBlock = some k → wo.heap.size ≤ k ∧ k < w3.heap.size) := fun k hk => ⟨(own_type HN3.out k hk).2.1, (own_type HN3.out k hk).1⟩
           have HZ3 : Hid (wo.heap.size ≤ w3.heap.size) := (Below.size HB3.out)
           have t6 : w3.cell? ⟨b, 6, none⟩ = some (.int .u64 sn) := (below_cell HB3.out hlo0).trans s6
           have HCB : Hid (Calls Try.prog 26 #[ptr (rs i), .int .u64 sn] w3 fun e w' => ∃ v', e = .returned v' ∧ NewI w3.heap.size w' v' (heldL (LS i) sn) ∧ Below w3.heap.size w3 w') := refHeld_any (HX3.out.core.re i HP.out) (by have := HK.out i; have := HKB.out; omega) sn
           clear hn3 hb3))
    clear HCA HCB HCP HX HX3 HX4 HB3 HB4 HV1L HV2L HZ3 HN3 HN4 HM4 HXL t6 u6 s6
    obtain ⟨P1, hP1⟩ : ∃ P', P' = P ++ [(Value.slice a3 n3 c3, heldL (LS i) sn)] := ⟨_, rfl⟩
    obtain ⟨Q1, hQ1⟩ : ∃ P', P' = Q ++ [(Value.slice a4 n4 c4, heldL (LS i) sn)] := ⟨_, rfl⟩
    have Hz1 : Hid (Wst B m z1 W cs rs va vb LS LS P1 Q1 X Y) := by rw [hP1, hQ1]; exact Hz1'.out
    have HE1 : Hid (P1.map (·.2) = Q1.map (·.2) ∧ P1.length = P.length + 1 ∧ Q1.length = Q.length + 1 ∧ ∀ p ∈ P1, p ∈ P ∨ p.2.length ≤ K) := by
      rw [hP1, hQ1]
      refine ⟨by have := HE0.out; simp [this], by simp, by simp, fun p hp => ?_⟩
      simp only [List.mem_append, List.mem_singleton] at hp
      exact hp.imp id fun e => by rw [e]; exact Nat.le_trans (held_len _ _) (HK.out i)
    clear hP1 hQ1 Hz1'
    generalize Value.slice a3 n3 c3 = s3v at *
    generalize Value.slice a4 n4 c4 = s4v at *
    have HLN1 : Hid (P1.length ≤ 4398046511104 ∧ Q1.length ≤ 4398046511104) := ⟨by have := HE1.out.2.1; omega, by have := HE1.out.2.2.1; have := HQL.out; omega⟩
    have hlo1 : b < z1.heap.size := (Array.getElem?_eq_some_iff.1 HOz1.out).1
    have s6 : z1.cell? ⟨b, 6, none⟩ = some (.int .u64 sn) := q6
    clear q6
    go_wp2_with fail
    -- once more
    have HX : Hid (Wst B m z1.drew W cs rs va vb LS LS P1 Q1 X Y) := Hz1.out.below (Below.refl _ _).drew
    have HXL : Hid (∀ p ∈ P1 ++ Q1, ∀ k, p.1.ownBlock = some k → k < z1.heap.size) := fun p hp k hk => by
      rcases List.mem_append.1 hp with hp | hp
      · exact (own_type (Hz1.out.core.oP p hp) k hk).1
      · exact (own_type (Hz1.out.core.oQ p hp) k hk).1
    have HCA : Hid (Calls Try.prog 14 #[ptr (cs i), .int .u64 sn] z1.drew fun e w' => ∃ v', e = .returned v' ∧ NewI z1.drew.heap.size w' v' (heldL (LS i) sn) ∧ Below z1.drew.heap.size z1.drew w') := held_any (HX.out.core.ls i HP.out) sn
    go_region_held_law (fun W' => W'.cell? ⟨b, 6, none⟩ = some (.int .u64 sn)) (first | (with_reducible assumption) | (go_keep; done))
      (first
        | (go_at_call 25
           refine Calls.mono HCP.out ?_
           rintro r z2 ⟨rfl, hw5, hs5, hb5⟩
           have Hz2' : Hid (Wst B m z2 W cs rs va vb LS LS (P1 ++ [(.slice a3 n3 c3, heldL (LS i) sn)]) (Q1 ++ [(.slice a4 n4 c4, heldL (LS i) sn)]) X Y) := hw5
           have HBz2 : Hid (Below B w z2) := (Below.trans HBz1.out (Below.mono HB4.out Hz1.out.hB)).trans hb5
           have HOz2 : Hid (z2.heap[b]? = some (.cells #[.int .i64 4, .int .i64 ON, .int .i64 x.p, .int .u64 x.b, .int .u64 x.d, .slice sa sl sc, .int .u64 sn] 37 (0, 0))) := op_stay ((HB4.out.block b hlo1).trans HOz1.out) hs5
           have q6 : z2.cell? ⟨b, 6, none⟩ = some (.int .u64 sn) := (op7 HOz2.out).2.2.2.2.2.2
           clear hw5 hs5 hb5)
        | (go_at_call 26
           refine Calls.mono HCB.out ?_
           rintro r w4 ⟨v4, rfl, hn4, hb4⟩
           obtain ⟨a4, n4, c4, e4⟩ : ∃ a n c, v4 = Value.slice a n c := (by obtain ⟨a, c, e⟩ := own_slice hn4; exact ⟨_, _, _, e⟩)
           subst e4
           have HN4 : Hid (NewI w3.heap.size w4 (.slice a4 n4 c4) (heldL (LS i) sn)) := hn4
           have HM4 : Hid (NewI z1.heap.size w4 (.slice a3 n3 c3) (heldL (LS i) sn)) := own_here HN3.out hb4
           have HX4 : Hid (Wst B m w4 W cs rs va vb LS LS P1 Q1 X Y) := HX3.out.below hb4
           have HB4 : Hid (Below z1.heap.size z1 w4) := Below.trans HB3.out (Below.mono hb4 (Below.size HB3.out))
           have HV2L : Hid (∀ k, (Value.slice a4 n4 c4).ownBlock = some k → w3.heap.size ≤ k) := fun k hk => (own_type HN4.out k hk).2.1
           have u6 : w4.cell? ⟨b, 6, none⟩ = some (.int .u64 sn) := (below_cell HB4.out hlo1).trans s6
           have HCP : Hid (Calls Try.prog 25 #[ptr W, .slice a3 n3 c3, .slice a4 n4 c4] w4 fun r w' => r = .returned (.bool true) ∧ Wst B m w' W cs rs va vb LS LS (P1 ++ [(.slice a3 n3 c3, heldL (LS i) sn)]) (Q1 ++ [(.slice a4 n4 c4, heldL (LS i) sn)]) X Y ∧ Stay w4 w' ∧ Below B w4 w') :=
             law_pages_any HX4.out (own_mono HM4.out Hz1.out.hB) (own_mono HN4.out (Nat.le_trans Hz1.out.hB HZ3.out)) (fun p hp k hk e => by have h1 := (HV1L.out k hk).1; have h2 := HXL.out p hp k e; omega) (fun p hp k hk e => by have h1 := HV2L.out k hk; have h2 := HXL.out p (List.mem_append.2 (.inl hp)) k e; have := HZ3.out; omega) (fun k hk e => by have h1 := (HV1L.out k hk).2; have h2 := HV2L.out k e; omega)
               HLN1.out.1 HLN1.out.2 (by have := held_len (LS i) sn; have := HK.out i; have := HKB.out; omega)
           clear hn4 hb4)
        | (go_at_call 14
           refine Calls.mono HCA.out ?_
           rintro r w3 ⟨v3, rfl, hn3, hb3⟩
           obtain ⟨a3, n3, c3, e3⟩ : ∃ a n c, v3 = Value.slice a n c := (by obtain ⟨a, c, e⟩ := own_slice hn3; exact ⟨_, _, _, e⟩)
           subst e3
           have HN3 : Hid (NewI z1.heap.size w3 (.slice a3 n3 c3) (heldL (LS i) sn)) := hn3
           have HX3 : Hid (Wst B m w3 W cs rs va vb LS LS P1 Q1 X Y) := HX.out.below hb3
           have HB3 : Hid (Below z1.heap.size z1 w3) := below_drew2 hb3
           have HV1L : Hid (∀ k, (Value.slice a3 n3 c3).ownBlock = some k → z1.heap.size ≤ k ∧ k < w3.heap.size) := fun k hk => ⟨(own_type HN3.out k hk).2.1, (own_type HN3.out k hk).1⟩
           have HZ3 : Hid (z1.heap.size ≤ w3.heap.size) := (Below.size HB3.out)
           have t6 : w3.cell? ⟨b, 6, none⟩ = some (.int .u64 sn) := (below_cell HB3.out hlo1).trans s6
           have HCB : Hid (Calls Try.prog 26 #[ptr (rs i), .int .u64 sn] w3 fun e w' => ∃ v', e = .returned v' ∧ NewI w3.heap.size w' v' (heldL (LS i) sn) ∧ Below w3.heap.size w3 w') := refHeld_any (HX3.out.core.re i HP.out) (by have := HK.out i; have := HKB.out; omega) sn
           clear hn3 hb3))
    clear HCA HCB HCP HX HX3 HX4 HB3 HB4 HV1L HV2L HZ3 HN3 HN4 HM4 HXL t6 u6 s6
    obtain ⟨P2, hP2⟩ : ∃ P', P' = P1 ++ [(Value.slice a3 n3 c3, heldL (LS i) sn)] := ⟨_, rfl⟩
    obtain ⟨Q2, hQ2⟩ : ∃ P', P' = Q1 ++ [(Value.slice a4 n4 c4, heldL (LS i) sn)] := ⟨_, rfl⟩
    have Hz2 : Hid (Wst B m z2 W cs rs va vb LS LS P2 Q2 X Y) := by rw [hP2, hQ2]; exact Hz2'.out
    have HE2 : Hid (P2.map (·.2) = Q2.map (·.2) ∧ P2.length = P1.length + 1 ∧ Q2.length = Q1.length + 1 ∧ ∀ p ∈ P2, p ∈ P1 ∨ p.2.length ≤ K) := by
      rw [hP2, hQ2]
      refine ⟨by have := HE1.out.1; simp [this], by simp, by simp, fun p hp => ?_⟩
      simp only [List.mem_append, List.mem_singleton] at hp
      exact hp.imp id fun e => by rw [e]; exact Nat.le_trans (held_len _ _) (HK.out i)
    clear hP2 hQ2 Hz2'
    generalize Value.slice a3 n3 c3 = s3v at *
    generalize Value.slice a4 n4 c4 = s4v at *
    clear q6
    go_wp2_with fail
    go_ret
    exact ⟨rfl, ⟨_, _, _, _, _, _, _, Hz2.out, HE2.out.1, HSX.out, fun j => Nat.le_refl _, by have := HE2.out.2.1; have := HE1.out.2.1; omega, rfl, fun p hp => (HE2.out.2.2.2 p hp).elim (HE1.out.2.2.2 p) .inr, fun p hp => .inl hp⟩, HBz2.out⟩
end Go.Proofs.Ytcfmcakdgamdmaa
