/- step: Lives. -/
import Derived.Test.YtcfmcakdgamdmaaStepD
namespace Go.Proofs.Ytcfmcakdgamdmaa
open Go.RowKit

set_option maxHeartbeats 3200000 in
set_option maxRecDepth 100000 in
theorem step_lives {B m : Nat} {w : World} {W : Nat} {cs rs : Nat → Nat} {va vb : Nat → Value} {LS : Nat → List Lf} {P Q : List (Value × List Int)} {X Y : List (Value × List Lf)} {on sn : Int} {x : Lf} {sv : Value} {K : Nat} (h : Wst B m w W cs rs va vb LS LS P Q X Y) (hm : 0 < m) (hmb : m ≤ 1954687338269) (ho : (Lit.int .i64 on).wf = true) (hsv : ∃ a n c, sv = .slice a n c) (hsP : P.map (·.2) = Q.map (·.2)) (hsX : X.map (·.2) = Y.map (·.2)) (hK : ∀ j, (LS j).length ≤ K) (hKb : K + 1 ≤ 1954687338269) (hPb : X.length + 2 ≤ 4398046511104) :
    Calls Try.prog 8 #[ptr W, .agg #[.int .i64 5, .int .i64 on, .int .i64 x.p, .int .u64 x.b, .int .u64 x.d, sv, .int .u64 sn]] w fun r w' => r = .returned (.bool true) ∧ After B m w W cs rs LS P X w' 0 0 2 K := by
  obtain ⟨sa, sl, sc, rfl⟩ := hsv
  obtain ⟨wo, hwo⟩ : ∃ wo, wo = w.alloc (.cells #[.int .i64 5, .int .i64 on, .int .i64 x.p, .int .u64 x.b, .int .u64 x.d, .slice sa sl sc, .int .u64 sn] 37) := ⟨_, rfl⟩
  have HBO : Hid (Below w.heap.size w wo) := by rw [hwo]; exact below_new _ _
  have HOC : Hid (wo.heap[w.heap.size]? = some (.cells #[.int .i64 5, .int .i64 on, .int .i64 x.p, .int .u64 x.b, .int .u64 x.d, .slice sa sl sc, .int .u64 sn] 37 (0, 0))) := by rw [hwo]; exact heap_alloc_last _ _
  have HWO : Hid (Wst B m wo W cs rs va vb LS LS P Q X Y) := h.below HBO.out
  have HBW : Hid (B ≤ w.heap.size) := h.hB
  have hb : -9223372036854775808 ≤ on ∧ on ≤ 9223372036854775807 := by simpa [Lit.wf, IntKind.min, IntKind.max, IntKind.bits, IntKind.signed] using ho
  have hnz : ((m : Int) == 0) = false := by rw [beq_eq_false_iff_ne]; omega
  have HM : Hid (0 < m) := hm
  have hmz : (m : Int) ≤ 1954687338269 := by omega
  clear ho
  obtain ⟨o0, o1, o2, o3, o4, o5, o6⟩ := op7 HOC.out
  have hlo : w.heap.size < wo.heap.size := (Array.getElem?_eq_some_iff.1 HOC.out).1
  have hcase : (∃ n : Nat, on = (n : Int) ∧ ¬ on < 0) ∨ ∃ n : Nat, on = -(n : Int) - 1 ∧ on < 0 := by
    by_cases h0 : on < 0
    · exact .inr ⟨(-(on + 1)).toNat, by omega, h0⟩
    · exact .inl ⟨on.toNat, by omega, h0⟩
  have HLT : Hid (W < wo.heap.size) := HWO.out.lt
  clear h hm
  rcases hcase with ⟨n, rfl, hsg⟩ | ⟨n, rfl, hsg⟩
  all_goals
    have hmm : (n : Int).tmod (m : Int) = ((n % m : Nat) : Int) := by rw [Int.tmod_eq_emod_of_nonneg (by omega)]; rfl
    have HP : Hid (n % m < m) := Nat.mod_lt _ HM.out
    generalize n % m = i at *
    obtain ⟨gl, cl, gr, cr, f0, f1, f2, f3⟩ := (HWO.out.find HP.out).is
    have hiz : (i : Int) < (m : Int) := by have := HP.out; omega
    go_enter Try.func8, Try.ntmps8
    go_upto_region 1 with fail
    rw [← hwo]
    clear hwo
    generalize w.heap.size = b at *
    go_wp2_with fail
    have HSP : Hid _ := hsP
    have HSX : Hid _ := hsX
    have HK : Hid (∀ j, (LS j).length ≤ K) := hK
    have HKB : Hid (K + 1 ≤ 1954687338269) := hKb
    --  : Hid (Wst B m wo.drew W cs rs va vb LS LS P Q X Y) := HWO.out.below (Below.refl _ _).drew
    obtain ⟨ON, hON⟩ : ∃ ON : Int, wo.heap[b]? = some (.cells #[.int .i64 5, .int .i64 ON, .int .i64 x.p, .int .u64 x.b, .int .u64 x.d, .slice sa sl sc, .int .u64 sn] 37 (0, 0)) := ⟨_, HOC.out⟩
    have HOz0 : Hid (wo.heap[b]? = some (.cells #[.int .i64 5, .int .i64 ON, .int .i64 x.p, .int .u64 x.b, .int .u64 x.d, .slice sa sl sc, .int .u64 sn] 37 (0, 0))) := hON
    have Hz0 : Hid (Wst B m wo W cs rs va vb LS LS P Q X Y) := HWO.out
    have HBz0 : Hid (Below B w wo) := HBO.out.mono HBW.out
    have HQL : Hid (Y.length = X.length) := by have := congrArg List.length HSX.out; rw [Hid]; simpa using this.symm
    have HE0 : Hid (X.map (·.2) = Y.map (·.2)) := HSX.out
    have HLN0 : Hid (X.length ≤ 4398046511104 ∧ Y.length ≤ 4398046511104) := ⟨by omega, by have := HQL.out; omega⟩
    have hlo0 : b < wo.heap.size := hlo
    clear hON HOC hlo o0 o1 o2 o3 o4 o5 f0 f1 f2 f3
    -- once more
    have HX : Hid (Wst B m wo W cs rs va vb LS LS P Q X Y) := Hz0.out.below (Below.refl _ _)
    have HXL : Hid (∀ p ∈ X ++ Y, ∀ k, p.1.ownBlock = some k → k < wo.heap.size) := fun p hp k hk => by
      rcases List.mem_append.1 hp with hp | hp
      · exact (own_type (Hz0.out.core.oX p hp) k hk).1
      · exact (own_type (Hz0.out.core.oY p hp) k hk).1
    have HVL : Hid (∀ j k, j < m → (va j).ownBlock = some k → k < wo.heap.size) := fun j k hj hk => (own_type (Hz0.out.core.ls j hj).row k hk).1
    have HCA : Hid (Calls Try.prog 11 #[ptr (cs i)] wo fun e w' => ∃ v', e = .returned v' ∧ NewL wo.heap.size w' v' (LS i) ∧ Below wo.heap.size wo w') := lives_any (HX.out.core.ls i HP.out)
    go_wp2_with fail
    refine Calls.mono HCA.out ?_
    rintro r w3 ⟨v3, rfl, hn3, hb3⟩
    obtain ⟨a3, n3, c3, e3⟩ : ∃ a n c, v3 = Value.slice a n c := (by obtain ⟨a, c, e⟩ := own_slice hn3; exact ⟨_, _, _, e⟩)
    subst e3
    have HN3 : Hid (NewL wo.heap.size w3 (.slice a3 n3 c3) (LS i)) := hn3
    have HX3 : Hid (Wst B m w3 W cs rs va vb LS LS P Q X Y) := HX.out.below hb3
    have HB3 : Hid (Below wo.heap.size wo w3) := hb3
    have HV1L : Hid (∀ k, (Value.slice a3 n3 c3).ownBlock = some k → wo.heap.size ≤ k ∧ k < w3.heap.size) := fun k hk => ⟨(own_type HN3.out k hk).2.1, (own_type HN3.out k hk).1⟩
    have HZ3 : Hid (wo.heap.size ≤ w3.heap.size) := (Below.size HB3.out)
    have HCB : Hid (Calls Try.prog 28 #[ptr (rs i)] w3 fun e w' => ∃ v', e = .returned v' ∧ NewL w3.heap.size w' v' (LS i) ∧ Below w3.heap.size w3 w') := refLives_any (HX3.out.core.re i HP.out) (by have := HK.out i; have := HKB.out; omega)
    clear hn3 hb3
    go_wp2_with fail
    refine Calls.mono HCB.out ?_
    rintro r w4 ⟨v4, rfl, hn4, hb4⟩
    obtain ⟨a4, n4, c4, e4⟩ : ∃ a n c, v4 = Value.slice a n c := (by obtain ⟨a, c, e⟩ := own_slice hn4; exact ⟨_, _, _, e⟩)
    subst e4
    have HN4 : Hid (NewL w3.heap.size w4 (.slice a4 n4 c4) (LS i)) := hn4
    have HM4 : Hid (NewL wo.heap.size w4 (.slice a3 n3 c3) (LS i)) := own_here HN3.out hb4
    have HX4 : Hid (Wst B m w4 W cs rs va vb LS LS P Q X Y) := HX3.out.below hb4
    have HB4 : Hid (Below wo.heap.size wo w4) := Below.trans HB3.out (Below.mono hb4 (Below.size HB3.out))
    have HV2L : Hid (∀ k, (Value.slice a4 n4 c4).ownBlock = some k → w3.heap.size ≤ k) := fun k hk => (own_type HN4.out k hk).2.1
    have HCP : Hid (Calls Try.prog 27 #[ptr W, .slice a3 n3 c3, .slice a4 n4 c4] w4 fun r w' => r = .returned (.bool true) ∧ Wst B m w' W cs rs va vb LS LS P Q (X ++ [(.slice a3 n3 c3, LS i)]) (Y ++ [(.slice a4 n4 c4, LS i)]) ∧ Stay w4 w' ∧ Below B w4 w') :=
      law_lives_any HX4.out (own_mono HM4.out Hz0.out.hB) (own_mono HN4.out (Nat.le_trans Hz0.out.hB HZ3.out)) (fun p hp k hk e => by have h1 := (HV1L.out k hk).1; have h2 := HXL.out p hp k e; omega) (fun p hp k hk e => by have h1 := HV2L.out k hk; have h2 := HXL.out p (List.mem_append.2 (.inl hp)) k e; have := HZ3.out; omega) (fun k hk e => by have h1 := (HV1L.out k hk).2; have h2 := HV2L.out k e; omega) (fun j k hj hk => by
                   have h0 := HVL.out j k hj hk
                   exact ⟨fun e => by have := (HV1L.out k e).1; omega, fun e => by have h1 := HV2L.out k e; have := HZ3.out; omega⟩)
        HLN0.out.1 HLN0.out.2 (by have := HK.out i; have := HKB.out; omega)
    clear hn4 hb4
    go_wp2_with fail
    refine Calls.mono HCP.out ?_
    rintro r z1 ⟨rfl, hw5, hs5, hb5⟩
    have Hz1' : Hid (Wst B m z1 W cs rs va vb LS LS P Q (X ++ [(.slice a3 n3 c3, LS i)]) (Y ++ [(.slice a4 n4 c4, LS i)])) := hw5
    have HBz1 : Hid (Below B w z1) := (Below.trans HBz0.out (Below.mono HB4.out Hz0.out.hB)).trans hb5
    have HOz1 : Hid (z1.heap[b]? = some (.cells #[.int .i64 5, .int .i64 ON, .int .i64 x.p, .int .u64 x.b, .int .u64 x.d, .slice sa sl sc, .int .u64 sn] 37 (0, 0))) := op_stay ((HB4.out.block b hlo0).trans HOz0.out) hs5
    clear hw5 hs5 hb5
    clear HCA HCB HCP HX HX3 HX4 HB3 HB4 HV1L HV2L HZ3 HN3 HN4 HM4 HXL HVL
    obtain ⟨P1, hP1⟩ : ∃ P', P' = X ++ [(Value.slice a3 n3 c3, LS i)] := ⟨_, rfl⟩
    obtain ⟨Q1, hQ1⟩ : ∃ P', P' = Y ++ [(Value.slice a4 n4 c4, LS i)] := ⟨_, rfl⟩
    have Hz1 : Hid (Wst B m z1 W cs rs va vb LS LS P Q P1 Q1) := by rw [hP1, hQ1]; exact Hz1'.out
    have HE1 : Hid (P1.map (·.2) = Q1.map (·.2) ∧ P1.length = X.length + 1 ∧ Q1.length = Y.length + 1 ∧ ∀ p ∈ P1, p ∈ X ∨ p.2.length ≤ K) := by
      rw [hP1, hQ1]
      refine ⟨by have := HE0.out; simp [this], by simp, by simp, fun p hp => ?_⟩
      simp only [List.mem_append, List.mem_singleton] at hp
      exact hp.imp id fun e => by rw [e]; exact HK.out i
    clear hP1 hQ1 Hz1'
    generalize Value.slice a3 n3 c3 = s3v at *
    generalize Value.slice a4 n4 c4 = s4v at *
    have HLN1 : Hid (P1.length ≤ 4398046511104 ∧ Q1.length ≤ 4398046511104) := ⟨by have := HE1.out.2.1; omega, by have := HE1.out.2.2.1; have := HQL.out; omega⟩
    have hlo1 : b < z1.heap.size := (Array.getElem?_eq_some_iff.1 HOz1.out).1
    -- once more
    have HX : Hid (Wst B m z1 W cs rs va vb LS LS P Q P1 Q1) := Hz1.out.below (Below.refl _ _)
    have HXL : Hid (∀ p ∈ P1 ++ Q1, ∀ k, p.1.ownBlock = some k → k < z1.heap.size) := fun p hp k hk => by
      rcases List.mem_append.1 hp with hp | hp
      · exact (own_type (Hz1.out.core.oX p hp) k hk).1
      · exact (own_type (Hz1.out.core.oY p hp) k hk).1
    have HVL : Hid (∀ j k, j < m → (va j).ownBlock = some k → k < z1.heap.size) := fun j k hj hk => (own_type (Hz1.out.core.ls j hj).row k hk).1
    have HCA : Hid (Calls Try.prog 11 #[ptr (cs i)] z1 fun e w' => ∃ v', e = .returned v' ∧ NewL z1.heap.size w' v' (LS i) ∧ Below z1.heap.size z1 w') := lives_any (HX.out.core.ls i HP.out)
    go_wp2_with fail
    refine Calls.mono HCA.out ?_
    rintro r w3 ⟨v3, rfl, hn3, hb3⟩
    obtain ⟨a3, n3, c3, e3⟩ : ∃ a n c, v3 = Value.slice a n c := (by obtain ⟨a, c, e⟩ := own_slice hn3; exact ⟨_, _, _, e⟩)
    subst e3
    have HN3 : Hid (NewL z1.heap.size w3 (.slice a3 n3 c3) (LS i)) := hn3
    have HX3 : Hid (Wst B m w3 W cs rs va vb LS LS P Q P1 Q1) := HX.out.below hb3
    have HB3 : Hid (Below z1.heap.size z1 w3) := hb3
    have HV1L : Hid (∀ k, (Value.slice a3 n3 c3).ownBlock = some k → z1.heap.size ≤ k ∧ k < w3.heap.size) := fun k hk => ⟨(own_type HN3.out k hk).2.1, (own_type HN3.out k hk).1⟩
    have HZ3 : Hid (z1.heap.size ≤ w3.heap.size) := (Below.size HB3.out)
    have HCB : Hid (Calls Try.prog 28 #[ptr (rs i)] w3 fun e w' => ∃ v', e = .returned v' ∧ NewL w3.heap.size w' v' (LS i) ∧ Below w3.heap.size w3 w') := refLives_any (HX3.out.core.re i HP.out) (by have := HK.out i; have := HKB.out; omega)
    clear hn3 hb3
    go_wp2_with fail
    refine Calls.mono HCB.out ?_
    rintro r w4 ⟨v4, rfl, hn4, hb4⟩
    obtain ⟨a4, n4, c4, e4⟩ : ∃ a n c, v4 = Value.slice a n c := (by obtain ⟨a, c, e⟩ := own_slice hn4; exact ⟨_, _, _, e⟩)
    subst e4
    have HN4 : Hid (NewL w3.heap.size w4 (.slice a4 n4 c4) (LS i)) := hn4
    have HM4 : Hid (NewL z1.heap.size w4 (.slice a3 n3 c3) (LS i)) := own_here HN3.out hb4
    have HX4 : Hid (Wst B m w4 W cs rs va vb LS LS P Q P1 Q1) := HX3.out.below hb4
    have HB4 : Hid (Below z1.heap.size z1 w4) := Below.trans HB3.out (Below.mono hb4 (Below.size HB3.out))
    have HV2L : Hid (∀ k, (Value.slice a4 n4 c4).ownBlock = some k → w3.heap.size ≤ k) := fun k hk => (own_type HN4.out k hk).2.1
    have HCP : Hid (Calls Try.prog 27 #[ptr W, .slice a3 n3 c3, .slice a4 n4 c4] w4 fun r w' => r = .returned (.bool true) ∧ Wst B m w' W cs rs va vb LS LS P Q (P1 ++ [(.slice a3 n3 c3, LS i)]) (Q1 ++ [(.slice a4 n4 c4, LS i)]) ∧ Stay w4 w' ∧ Below B w4 w') :=
      law_lives_any HX4.out (own_mono HM4.out Hz1.out.hB) (own_mono HN4.out (Nat.le_trans Hz1.out.hB HZ3.out)) (fun p hp k hk e => by have h1 := (HV1L.out k hk).1; have h2 := HXL.out p hp k e; omega) (fun p hp k hk e => by have h1 := HV2L.out k hk; have h2 := HXL.out p (List.mem_append.2 (.inl hp)) k e; have := HZ3.out; omega) (fun k hk e => by have h1 := (HV1L.out k hk).2; have h2 := HV2L.out k e; omega) (fun j k hj hk => by
                   have h0 := HVL.out j k hj hk
                   exact ⟨fun e => by have := (HV1L.out k e).1; omega, fun e => by have h1 := HV2L.out k e; have := HZ3.out; omega⟩)
        HLN1.out.1 HLN1.out.2 (by have := HK.out i; have := HKB.out; omega)
    clear hn4 hb4
    go_wp2_with fail
    refine Calls.mono HCP.out ?_
    rintro r z2 ⟨rfl, hw5, hs5, hb5⟩
    have Hz2' : Hid (Wst B m z2 W cs rs va vb LS LS P Q (P1 ++ [(.slice a3 n3 c3, LS i)]) (Q1 ++ [(.slice a4 n4 c4, LS i)])) := hw5
    have HBz2 : Hid (Below B w z2) := (Below.trans HBz1.out (Below.mono HB4.out Hz1.out.hB)).trans hb5
    have HOz2 : Hid (z2.heap[b]? = some (.cells #[.int .i64 5, .int .i64 ON, .int .i64 x.p, .int .u64 x.b, .int .u64 x.d, .slice sa sl sc, .int .u64 sn] 37 (0, 0))) := op_stay ((HB4.out.block b hlo1).trans HOz1.out) hs5
    clear hw5 hs5 hb5
    clear HCA HCB HCP HX HX3 HX4 HB3 HB4 HV1L HV2L HZ3 HN3 HN4 HM4 HXL HVL
    obtain ⟨P2, hP2⟩ : ∃ P', P' = P1 ++ [(Value.slice a3 n3 c3, LS i)] := ⟨_, rfl⟩
    obtain ⟨Q2, hQ2⟩ : ∃ P', P' = Q1 ++ [(Value.slice a4 n4 c4, LS i)] := ⟨_, rfl⟩
    have Hz2 : Hid (Wst B m z2 W cs rs va vb LS LS P Q P2 Q2) := by rw [hP2, hQ2]; exact Hz2'.out
    have HE2 : Hid (P2.map (·.2) = Q2.map (·.2) ∧ P2.length = P1.length + 1 ∧ Q2.length = Q1.length + 1 ∧ ∀ p ∈ P2, p ∈ P1 ∨ p.2.length ≤ K) := by
      rw [hP2, hQ2]
      refine ⟨by have := HE1.out.1; simp [this], by simp, by simp, fun p hp => ?_⟩
      simp only [List.mem_append, List.mem_singleton] at hp
      exact hp.imp id fun e => by rw [e]; exact HK.out i
    clear hP2 hQ2 Hz2'
    generalize Value.slice a3 n3 c3 = s3v at *
    generalize Value.slice a4 n4 c4 = s4v at *
    have HC1 : Hid (Calls Try.prog 12 #[ptr (cs i)] z2 fun e w' => e = .returned (.int .i64 ((LS i).length : Int)) ∧ w' = z2) := count_any (Hz2.out.core.ls i HP.out)
    have HC2 : Hid (Calls Try.prog 29 #[ptr (rs i)] z2 fun e w' => e = .returned (.int .i64 ((LS i).length : Int)) ∧ w' = z2) := refCount_any (Hz2.out.core.re i HP.out)
    generalize hll : (LS i).length = ll at *
    clear hll
    go_wp2_with fail
    refine Calls.mono HC1.out ?_
    rintro r z3 ⟨rfl, hz3⟩
    rw [hz3]
    clear hz3 HC1
    go_wp2_with fail
    refine Calls.mono HC2.out ?_
    rintro r z3 ⟨rfl, hz3⟩
    rw [hz3]
    clear hz3 HC2
    go_wp2_with fail
    go_ret
    exact ⟨rfl, ⟨_, _, _, _, _, _, _, Hz2.out, HSP.out, HE2.out.1, fun j => Nat.le_refl _, rfl, by have := HE2.out.2.1; have := HE1.out.2.1; omega, fun p hp => .inl hp, fun p hp => (HE2.out.2.2.2 p hp).elim (HE1.out.2.2.2 p) .inr⟩, HBz2.out⟩
end Go.Proofs.Ytcfmcakdgamdmaa
