/- step: one call on the World's lists. -/
import Derived.Test.YtcfmcakdgamdmaaFreesW
namespace Go.Proofs.Ytcfmcakdgamdmaa
open Go.RowKit

theorem ptr_row {B n i : Nat} {w : World} {T : TypeId} {v : Value} {f : Nat → Nat} (h : w.ownsRow B T 1 v n (ptrs n f)) (hi : i < n) : ∃ g c, v = .slice (some ⟨g, 0, none⟩) n c ∧ w.cell? ⟨g, i, none⟩ = some (ptr (f i)) := by
  rcases own_row h with ⟨_, h0⟩ | ⟨g, c, e, _, _, hc⟩
  · omega
  · exact ⟨g, c, e, hc i _ (ptrs_at hi)⟩
/-- Where the lists are found. -/
structure Find (B m : Nat) (w : World) (W : Nat) (cs rs : Nat → Nat) (i : Nat) : Prop where
  is : ∃ gl cl gr cr, w.cell? ⟨W, 0, none⟩ = some (.slice (some ⟨gl, 0, none⟩) m cl) ∧ w.cell? ⟨gl, i, none⟩ = some (ptr (cs i)) ∧ w.cell? ⟨W, 1, none⟩ = some (.slice (some ⟨gr, 0, none⟩) m cr) ∧ w.cell? ⟨gr, i, none⟩ = some (ptr (rs i))
theorem Wst.find {B m : Nat} {w : World} {W i : Nat} {cs rs : Nat → Nat} {va vb : Nat → Value} {LA LB : Nat → List Lf} {P Q : List (Value × List Int)} {X Y : List (Value × List Lf)} (h : Wst B m w W cs rs va vb LA LB P Q X Y) (hi : i < m) : Find B m w W cs rs i := by
  obtain ⟨vl, vr, vp, vq, vx, vy, n, hR, hC⟩ := h
  have hl := hR.rl
  have hr := hR.rr
  rw [ptrs_length] at hl hr
  obtain ⟨gl, cl, e1, h1⟩ := ptr_row hl hi
  obtain ⟨gr, cr, e2, h2⟩ := ptr_row hr hi
  obtain ⟨c0, c1, _⟩ := hR.cells
  rw [e1] at c0
  rw [e2] at c1
  exact ⟨gl, cl, gr, cr, c0, h1, c1, h2⟩
theorem Find.below {B m : Nat} {w w' : World} {W i : Nat} {cs rs : Nat → Nat} (h : Find B m w W cs rs i) (hb : Below w.heap.size w w') (hW : W < w.heap.size) : Find B m w' W cs rs i := by
  obtain ⟨gl, cl, gr, cr, h1, h2, h3, h4⟩ := h
  have lt : ∀ g o v, w.cell? ⟨g, o, none⟩ = some v → g < w.heap.size := fun g o v hc => by
    rcases Nat.lt_or_ge g w.heap.size with h | h
    · exact h
    · simp [World.cell?, Array.getElem?_eq_none h] at hc
  exact ⟨gl, cl, gr, cr, (below_cell hb hW).trans h1, (below_cell hb (lt _ _ _ h2)).trans h2, (below_cell hb hW).trans h3, (below_cell hb (lt _ _ _ h4)).trans h4⟩
theorem Wst.lt {B m : Nat} {w : World} {W : Nat} {cs rs : Nat → Nat} {va vb : Nat → Value} {LA LB : Nat → List Lf} {P Q : List (Value × List Int)} {X Y : List (Value × List Lf)} (h : Wst B m w W cs rs va vb LA LB P Q X Y) : W < w.heap.size := by
  obtain ⟨vl, vr, vp, vq, vx, vy, n, hR, hC⟩ := h
  exact (Array.getElem?_eq_some_iff.1 hR.head).1
theorem op7 {w : World} {b : Nat} {a0 a1 a2 a3 a4 a5 a6 : Value} (h : w.heap[b]? = some (.cells #[a0, a1, a2, a3, a4, a5, a6] 37 (0, 0))) : w.cell? ⟨b, 0, none⟩ = some a0 ∧ w.cell? ⟨b, 1, none⟩ = some a1 ∧ w.cell? ⟨b, 2, none⟩ = some a2 ∧ w.cell? ⟨b, 3, none⟩ = some a3 ∧ w.cell? ⟨b, 4, none⟩ = some a4 ∧ w.cell? ⟨b, 5, none⟩ = some a5 ∧ w.cell? ⟨b, 6, none⟩ = some a6 :=
  ⟨by rw [row_cell h]; rfl, by rw [row_cell h]; rfl, by rw [row_cell h]; rfl, by rw [row_cell h]; rfl, by rw [row_cell h]; rfl, by rw [row_cell h]; rfl, by rw [row_cell h]; rfl⟩
theorem op_stay {w w' : World} {b : Nat} {cur : Array Value} (h : w.heap[b]? = some (.cells cur 37 (0, 0))) (hs : Stay w w') : w'.heap[b]? = some (.cells cur 37 (0, 0)) := hs.is b _ _ _ (by decide) (by decide) (by decide) (by decide) (by decide) (by decide) (by decide) (by decide) h
/-- What a step leaves. -/
structure After (B m : Nat) (w : World) (W : Nat) (cs rs : Nat → Nat) (LS : Nat → List Lf) (P : List (Value × List Int)) (X : List (Value × List Lf)) (w' : World) (dL dP dX K : Nat) : Prop where
  is : ∃ va vb LS' P' Q' X' Y', Wst B m w' W cs rs va vb LS' LS' P' Q' X' Y' ∧ P'.map (·.2) = Q'.map (·.2) ∧ X'.map (·.2) = Y'.map (·.2) ∧ (∀ j, (LS' j).length ≤ (LS j).length + dL) ∧ P'.length = P.length + dP ∧ X'.length = X.length + dX ∧ (∀ p ∈ P', p ∈ P ∨ p.2.length ≤ K) ∧ (∀ p ∈ X', p ∈ X ∨ p.2.length ≤ K)
  low : Below B w w'
theorem at_len {f : Nat → List Lf} {i : Nat} {L : List Lf} {d : Nat} (h : L.length ≤ (f i).length + d) : ∀ j, (at_ f i L j).length ≤ (f j).length + d := fun j => by
  by_cases e : j = i
  · subst e; rw [at_same]; exact h
  · rw [at_other e]; omega
theorem left_len (L : List Lf) (S : List Int) : (leftL L S).length ≤ L.length := by unfold leftL; exact List.length_filter_le _ _
theorem held_len (L : List Lf) (s : Int) : (heldL L s).length ≤ L.length := by unfold heldL; rw [List.length_map]; exact List.length_filter_le _ _
set_option maxHeartbeats 3200000 in
set_option maxRecDepth 100000 in
theorem step_put {B m : Nat} {w : World} {W : Nat} {cs rs : Nat → Nat} {va vb : Nat → Value} {LS : Nat → List Lf} {P Q : List (Value × List Int)} {X Y : List (Value × List Lf)} {on sn : Int} {x : Lf} {sv : Value} {K : Nat} (h : Wst B m w W cs rs va vb LS LS P Q X Y) (hm : 0 < m) (hmb : m ≤ 1954687338269) (ho : (Lit.int .i64 on).wf = true) (hsv : ∃ a n c, sv = .slice a n c) (hsP : P.map (·.2) = Q.map (·.2)) (hsX : X.map (·.2) = Y.map (·.2)) (hK : ∀ j, (LS j).length ≤ K) (hKb : K + 1 ≤ 1954687338269) :
    Calls Try.prog 8 #[ptr W, .agg #[.int .i64 2, .int .i64 on, .int .i64 x.p, .int .u64 x.b, .int .u64 x.d, sv, .int .u64 sn]] w fun r w' => r = .returned (.bool true) ∧ After B m w W cs rs LS P X w' 1 0 0 K := by
  obtain ⟨sa, sl, sc, rfl⟩ := hsv
  obtain ⟨wo, hwo⟩ : ∃ wo, wo = w.alloc (.cells #[.int .i64 2, .int .i64 on, .int .i64 x.p, .int .u64 x.b, .int .u64 x.d, .slice sa sl sc, .int .u64 sn] 37) := ⟨_, rfl⟩
  have HBO : Hid (Below w.heap.size w wo) := by rw [hwo]; exact below_new _ _
  have HOC : Hid (wo.heap[w.heap.size]? = some (.cells #[.int .i64 2, .int .i64 on, .int .i64 x.p, .int .u64 x.b, .int .u64 x.d, .slice sa sl sc, .int .u64 sn] 37 (0, 0))) := by rw [hwo]; exact heap_alloc_last _ _
  have HWO : Hid (Wst B m wo W cs rs va vb LS LS P Q X Y) := h.below HBO.out
  have HBW : Hid (B ≤ w.heap.size) := h.hB
  have hb : -9223372036854775808 ≤ on ∧ on ≤ 9223372036854775807 := by simpa [Lit.wf, IntKind.min, IntKind.max, IntKind.bits, IntKind.signed] using ho
  have hnz : ((m : Int) == 0) = false := by rw [beq_eq_false_iff_ne]; omega
  have HM : Hid (0 < m) := hm
  have hmz : (m : Int) ≤ 1954687338269 := by omega
  clear ho
  obtain ⟨o0, o1, o2, o3, o4, o5, o6⟩ := op7 HOC.out
  have hlo : w.heap.size < wo.heap.size := (Array.getElem?_eq_some_iff.1 HOC.out).1
  have hcase : (∃ n : Nat, on = (n : Int) ∧ ¬ on < 0) ∨ ∃ n : Nat, on = -(n : Int) - 1 ∧ on < 0 := by
    by_cases h0 : on < 0
    · exact .inr ⟨(-(on + 1)).toNat, by omega, h0⟩
    · exact .inl ⟨on.toNat, by omega, h0⟩
  have HLT : Hid (W < wo.heap.size) := HWO.out.lt
  clear h hm
  rcases hcase with ⟨n, rfl, hsg⟩ | ⟨n, rfl, hsg⟩
  all_goals
    have hmm : (n : Int).tmod (m : Int) = ((n % m : Nat) : Int) := by rw [Int.tmod_eq_emod_of_nonneg (by omega)]; rfl
    have HP : Hid (n % m < m) := Nat.mod_lt _ HM.out
    generalize n % m = i at *
    obtain ⟨gl, cl, gr, cr, f0, f1, f2, f3⟩ := (HWO.out.find HP.out).is
    have hiz : (i : Int) < (m : Int) := by have := HP.out; omega
    go_enter Try.func8, Try.ntmps8
    go_upto_region 1 with fail
    rw [← hwo]
    clear hwo
    generalize w.heap.size = b at *
    go_wp2_with fail
    have HSP : Hid _ := hsP
    have HSX : Hid _ := hsX
    have HK : Hid (∀ j, (LS j).length ≤ K) := hK
    have HKB : Hid (K + 1 ≤ 1954687338269) := hKb
    have HW1 : Hid (Wst B m wo.drew W cs rs va vb LS LS P Q X Y) := HWO.out.below (Below.refl _ _).drew
    have HOK : Hid (OkL (LS i)) := (HWO.out.core.ls i HP.out).ok
    generalize hz : putE (LS i) x = z at *
    have hzz : (z == z) = true := by simp
    have HPA : Hid (Calls Try.prog 21 #[ptr (cs i), .agg #[.int .i64 x.p, .int .u64 x.b, .int .u64 x.d]] wo.drew fun r w' => ∃ v', r = .returned (.int .i64 z) ∧ Wst B m w' W cs rs (at_ va i v') vb (at_ LS i (putL (LS i) x)) LS P Q X Y ∧ Stay wo.drew w' ∧ Below B wo.drew w') := by
      rw [← hz]
      exact HW1.out.put_call_l HP.out (by have := HK.out i; have := HKB.out; omega)
    have HZ : Hid (putE (LS i) x = z) := hz
    clear hz
    go_region_held_law (fun W' => W'.cell? ⟨b, 2, none⟩ = some (.int .i64 x.p) ∧ W'.cell? ⟨b, 3, none⟩ = some (.int .u64 x.b) ∧ W'.cell? ⟨b, 4, none⟩ = some (.int .u64 x.d)) (first | (refine ⟨?_, ?_, ?_⟩ <;> with_reducible assumption) | (go_keep; done))
      (first
        | (go_at_call 23; refine Calls.mono HPB.out ?_
           rintro r w4 ⟨v4, rfl, hw4, hs4, hb4⟩
           obtain ⟨_, _, t2, t3, t4, _, _⟩ := op7 (op_stay HO3.out hs4)
           have HW4 : Hid (Wst B m w4 W cs rs (at_ va i v3) (at_ vb i v4) (at_ LS i (putL (LS i) x)) (at_ LS i (putL (LS i) x)) P Q X Y) := hw4
           have HB4 : Hid (Below B w w4) := HB3.out.trans hb4
           clear hw4 hs4 hb4)
        | (go_at_call 21; refine Calls.mono HPA.out ?_
           rintro r w3 ⟨v3, rfl, hw3, hs3, hb3⟩
           have HO3 : Hid (w3.heap[b]? = _) := op_stay (show wo.drew.heap[b]? = _ from HOC.out) hs3
           obtain ⟨_, _, s2, s3, s4, _, _⟩ := op7 HO3.out
           have HB3 : Hid (Below B w w3) := (HBO.out.mono HBW.out).trans (((Below.refl B wo).drew).trans hb3)
           have HPB : Hid (Calls Try.prog 23 #[ptr (rs i), .agg #[.int .i64 x.p, .int .u64 x.b, .int .u64 x.d]] w3 fun r w' => ∃ v', r = .returned (.int .i64 z) ∧ Wst B m w' W cs rs (at_ va i v3) (at_ vb i v') (at_ LS i (putL (LS i) x)) (at_ LS i (putL (LS i) x)) P Q X Y ∧ Stay w3 w' ∧ Below B w3 w') := by
             rw [← HZ.out]
             exact hw3.put_call_r HP.out HOK.out (by have := HK.out i; have := HKB.out; omega)
           clear hw3 hs3 hb3))
    go_wp2_with fail
    go_ret
    exact ⟨by simp, ⟨_, _, _, _, _, _, _, HW4.out, HSP.out, HSX.out, at_len (putL_length _ _), rfl, rfl, fun p hp => .inl hp, fun p hp => .inl hp⟩, HB4.out⟩
end Go.Proofs.Ytcfmcakdgamdmaa
