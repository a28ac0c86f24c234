/- step: Free, and a kind that is none. -/
import Derived.Test.YtcfmcakdgamdmaaStepD
namespace Go.Proofs.Ytcfmcakdgamdmaa
open Go.RowKit

set_option maxHeartbeats 3200000 in
set_option maxRecDepth 100000 in
theorem step_free {B m : Nat} {w : World} {W : Nat} {cs rs : Nat → Nat} {va vb : Nat → Value} {LS : Nat → List Lf} {P Q : List (Value × List Int)} {X Y : List (Value × List Lf)} {on sn : Int} {x : Lf} {sv : Value} {K : Nat} {S : List Int} (h : Wst B m w W cs rs va vb LS LS P Q X Y) (hm : 0 < m) (hmb : m ≤ 1954687338269) (ho : (Lit.int .i64 on).wf = true) (hsv : ∃ a n c, sv = .slice a n c) (hsP : P.map (·.2) = Q.map (·.2)) (hsX : X.map (·.2) = Y.map (·.2)) (hK : ∀ j, (LS j).length ≤ K) (hKb : K + 1 ≤ 1954687338269) (hS : SnAt B w sv S) (hPb : P.length + 2 ≤ 4398046511104) :
    Calls Try.prog 8 #[ptr W, .agg #[.int .i64 3, .int .i64 on, .int .i64 x.p, .int .u64 x.b, .int .u64 x.d, sv, .int .u64 sn]] w fun r w' => r = .returned (.bool true) ∧ After B m w W cs rs LS P X w' 0 2 0 K := by
  obtain ⟨sa, sl, sc, rfl⟩ := hsv
  obtain ⟨wo, hwo⟩ : ∃ wo, wo = w.alloc (.cells #[.int .i64 3, .int .i64 on, .int .i64 x.p, .int .u64 x.b, .int .u64 x.d, .slice sa sl sc, .int .u64 sn] 37) := ⟨_, rfl⟩
  have HBO : Hid (Below w.heap.size w wo) := by rw [hwo]; exact below_new _ _
  have HOC : Hid (wo.heap[w.heap.size]? = some (.cells #[.int .i64 3, .int .i64 on, .int .i64 x.p, .int .u64 x.b, .int .u64 x.d, .slice sa sl sc, .int .u64 sn] 37 (0, 0))) := by rw [hwo]; exact heap_alloc_last _ _
  have HWO : Hid (Wst B m wo W cs rs va vb LS LS P Q X Y) := h.below HBO.out
  have HBW : Hid (B ≤ w.heap.size) := h.hB
  have hb : -9223372036854775808 ≤ on ∧ on ≤ 9223372036854775807 := by simpa [Lit.wf, IntKind.min, IntKind.max, IntKind.bits, IntKind.signed] using ho
  have hnz : ((m : Int) == 0) = false := by rw [beq_eq_false_iff_ne]; omega
  have HM : Hid (0 < m) := hm
  have hmz : (m : Int) ≤ 1954687338269 := by omega
  clear ho
  obtain ⟨o0, o1, o2, o3, o4, o5, o6⟩ := op7 HOC.out
  have hlo : w.heap.size < wo.heap.size := (Array.getElem?_eq_some_iff.1 HOC.out).1
  have hcase : (∃ n : Nat, on = (n : Int) ∧ ¬ on < 0) ∨ ∃ n : Nat, on = -(n : Int) - 1 ∧ on < 0 := by
    by_cases h0 : on < 0
    · exact .inr ⟨(-(on + 1)).toNat, by omega, h0⟩
    · exact .inl ⟨on.toNat, by omega, h0⟩
  have HLT : Hid (W < wo.heap.size) := HWO.out.lt
  clear h hm
  rcases hcase with ⟨n, rfl, hsg⟩ | ⟨n, rfl, hsg⟩
  all_goals
    have hmm : (n : Int).tmod (m : Int) = ((n % m : Nat) : Int) := by rw [Int.tmod_eq_emod_of_nonneg (by omega)]; rfl
    have HP : Hid (n % m < m) := Nat.mod_lt _ HM.out
    generalize n % m = i at *
    obtain ⟨gl, cl, gr, cr, f0, f1, f2, f3⟩ := (HWO.out.find HP.out).is
    have hiz : (i : Int) < (m : Int) := by have := HP.out; omega
    go_enter Try.func8, Try.ntmps8
    go_upto_region 1 with fail
    rw [← hwo]
    clear hwo
    have HSN : Hid (SnAt B wo (.slice sa sl sc) S) := hS.below (HBO.out.mono HBW.out)
    generalize w.heap.size = b at *
    go_wp2_with fail
    have HSP : Hid _ := hsP
    have HSX : Hid _ := hsX
    have HK : Hid (∀ j, (LS j).length ≤ K) := hK
    have HKB : Hid (K + 1 ≤ 1954687338269) := hKb
    --  : Hid (Wst B m wo.drew W cs rs va vb LS LS P Q X Y) := HWO.out.below (Below.refl _ _).drew
    have HF : Hid (Calls Try.prog 24 #[ptr W, ptr (cs i), ptr (rs i), .slice sa sl sc] wo fun r w' => r = .returned (.bool true) ∧ ∃ va' vb' P' Q', Wst B m w' W cs rs va' vb' (at_ LS i (leftL (LS i) S)) (at_ LS i (leftL (LS i) S)) P' Q' X Y ∧ P'.map (·.2) = Q'.map (·.2) ∧ P'.length = P.length + 2 ∧ (∀ p ∈ P', p ∈ P ∨ p.2.length ≤ (LS i).length) ∧ Below B wo w') := frees_any HWO.out HP.out HSN.out HSP.out hPb (by have := HK.out i; have := HKB.out; omega)
    refine Calls.mono HF.out ?_
    rintro r w4 ⟨rfl, hq⟩
    have HQ : Hid _ := hq
    clear hq HF
    go_wp2_with fail
    go_ret
    obtain ⟨va', vb', P', Q', k1, k2, k3, k4, k5⟩ := HQ.out
    exact ⟨rfl, ⟨_, _, _, _, _, _, _, k1, k2, HSX.out, at_len (left_len _ _), k3, rfl, fun p hp => (k4 p hp).imp id fun h => Nat.le_trans h (HK.out i), fun p hp => .inl hp⟩, (HBO.out.mono HBW.out).trans k5⟩
set_option maxHeartbeats 3200000 in
set_option maxRecDepth 100000 in
theorem step_other {B m : Nat} {w : World} {W : Nat} {cs rs : Nat → Nat} {va vb : Nat → Value} {LS : Nat → List Lf} {P Q : List (Value × List Int)} {X Y : List (Value × List Lf)} {on sn : Int} {x : Lf} {sv : Value} {kd : Int} {K : Nat} (h : Wst B m w W cs rs va vb LS LS P Q X Y) (hm : 0 < m) (hmb : m ≤ 1954687338269) (ho : (Lit.int .i64 on).wf = true) (hsv : ∃ a n c, sv = .slice a n c) (hsP : P.map (·.2) = Q.map (·.2)) (hsX : X.map (·.2) = Y.map (·.2)) (hK : ∀ j, (LS j).length ≤ K) (hKb : K + 1 ≤ 1954687338269) (hkd : kd < 1 ∨ 5 < kd) :
    Calls Try.prog 8 #[ptr W, .agg #[.int .i64 kd, .int .i64 on, .int .i64 x.p, .int .u64 x.b, .int .u64 x.d, sv, .int .u64 sn]] w fun r w' => r = .returned (.bool true) ∧ After B m w W cs rs LS P X w' 0 0 0 K := by
  obtain ⟨sa, sl, sc, rfl⟩ := hsv
  obtain ⟨wo, hwo⟩ : ∃ wo, wo = w.alloc (.cells #[.int .i64 kd, .int .i64 on, .int .i64 x.p, .int .u64 x.b, .int .u64 x.d, .slice sa sl sc, .int .u64 sn] 37) := ⟨_, rfl⟩
  have HBO : Hid (Below w.heap.size w wo) := by rw [hwo]; exact below_new _ _
  have HOC : Hid (wo.heap[w.heap.size]? = some (.cells #[.int .i64 kd, .int .i64 on, .int .i64 x.p, .int .u64 x.b, .int .u64 x.d, .slice sa sl sc, .int .u64 sn] 37 (0, 0))) := by rw [hwo]; exact heap_alloc_last _ _
  have HWO : Hid (Wst B m wo W cs rs va vb LS LS P Q X Y) := h.below HBO.out
  have HBW : Hid (B ≤ w.heap.size) := h.hB
  have hb : -9223372036854775808 ≤ on ∧ on ≤ 9223372036854775807 := by simpa [Lit.wf, IntKind.min, IntKind.max, IntKind.bits, IntKind.signed] using ho
  have hnz : ((m : Int) == 0) = false := by rw [beq_eq_false_iff_ne]; omega
  have HM : Hid (0 < m) := hm
  have hmz : (m : Int) ≤ 1954687338269 := by omega
  clear ho
  have k1 : (kd == 1) = false := by rw [beq_eq_false_iff_ne]; omega
  have k2 : (kd == 2) = false := by rw [beq_eq_false_iff_ne]; omega
  have k3 : (kd == 3) = false := by rw [beq_eq_false_iff_ne]; omega
  have k4 : (kd == 4) = false := by rw [beq_eq_false_iff_ne]; omega
  have k5 : (kd == 5) = false := by rw [beq_eq_false_iff_ne]; omega
  clear hkd
  obtain ⟨o0, o1, o2, o3, o4, o5, o6⟩ := op7 HOC.out
  have hlo : w.heap.size < wo.heap.size := (Array.getElem?_eq_some_iff.1 HOC.out).1
  have hcase : (∃ n : Nat, on = (n : Int) ∧ ¬ on < 0) ∨ ∃ n : Nat, on = -(n : Int) - 1 ∧ on < 0 := by
    by_cases h0 : on < 0
    · exact .inr ⟨(-(on + 1)).toNat, by omega, h0⟩
    · exact .inl ⟨on.toNat, by omega, h0⟩
  have HLT : Hid (W < wo.heap.size) := HWO.out.lt
  clear h hm
  rcases hcase with ⟨n, rfl, hsg⟩ | ⟨n, rfl, hsg⟩
  all_goals
    have hmm : (n : Int).tmod (m : Int) = ((n % m : Nat) : Int) := by rw [Int.tmod_eq_emod_of_nonneg (by omega)]; rfl
    have HP : Hid (n % m < m) := Nat.mod_lt _ HM.out
    generalize n % m = i at *
    obtain ⟨gl, cl, gr, cr, f0, f1, f2, f3⟩ := (HWO.out.find HP.out).is
    have hiz : (i : Int) < (m : Int) := by have := HP.out; omega
    go_enter Try.func8, Try.ntmps8
    go_upto_region 1 with fail
    rw [← hwo]
    clear hwo
    generalize w.heap.size = b at *
    go_wp2_with fail
    have HSP : Hid _ := hsP
    have HSX : Hid _ := hsX
    have HK : Hid (∀ j, (LS j).length ≤ K) := hK
    have HKB : Hid (K + 1 ≤ 1954687338269) := hKb
    --  : Hid (Wst B m wo.drew W cs rs va vb LS LS P Q X Y) := HWO.out.below (Below.refl _ _).drew
    go_ret
    exact ⟨rfl, ⟨_, _, _, _, _, _, _, HWO.out, HSP.out, HSX.out, fun j => Nat.le_refl _, rfl, rfl, fun p hp => .inl hp, fun p hp => .inl hp⟩, HBO.out.mono HBW.out⟩
end Go.Proofs.Ytcfmcakdgamdmaa
