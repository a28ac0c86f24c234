/- The law's sameMsgs, same. -/
import Derived.Test.YtpmcpomomagkhaaTakeN
import Derived.Test.YtpmcpomomagkhaaBrSame
namespace Go.Proofs.Ytpmcpomomagkhaa
open Go.RowKit

theorem strB_ne' (a b : List UInt8) : ((strB a).toList != (strB b).toList) = !decide (a = b) := by rw [bne, strB_eq]
theorem ms_ext {a b : Ms} (h1 : a.st = b.st) (h2 : a.kd = b.kd) (h3 : a.lo = b.lo) (h4 : a.hi = b.hi) (h5 : a.va = b.va) : a = b := by
  cases a; cases b; simp_all

set_option maxHeartbeats 6400000 in
set_option maxRecDepth 100000 in
theorem sameMsgs_any {w : World} {v u : Value} {A B : List Mt} (hA : MsgsAt w.heap.size w v A) (hB : MsgsAt w.heap.size w u B) :
    Calls Try.prog 26 #[v, u] w fun e w' => e = .returned (.bool (decide (msOf A = msOf B))) ∧ Below w.heap.size w w' := by
  obtain ⟨a1, c1, rfl⟩ := hA.form
  obtain ⟨a2, c2, rfl⟩ := hB.form
  have hs1 := hA.short
  have hs2 := hB.short
  have HA : Hid (MsgsAt w.heap.size w (.slice a1 A.length c1) A) := hA
  have HB : Hid (MsgsAt w.heap.size w (.slice a2 B.length c2) B) := hB
  clear hA hB
  by_cases hl : A.length = B.length
  · have hz1 : ((A.length : Int) != (B.length : Int)) = false := by simp [hl]
    have HL : Hid (A.length = B.length) := hl
    clear hl
    go_enter Try.func26, Try.ntmps26
    go_wp2_with fail
    go_loopw [5] (fun i wx => ∃ k : Nat, k ≤ A.length ∧ i = .int .i64 k ∧ (msOf A).take k = (msOf B).take k ∧ Below w.heap.size w wx) (fun i _ => A.length - (intOf i).toNat)
    case atStart => exact ⟨0, by omega, rfl, rfl, Below.refl _ _⟩
    case round =>
      obtain ⟨k, hk, rfl, heq, hbe⟩ := hrel
      have HEQ : Hid ((msOf A).take k = (msOf B).take k) := heq
      have HBE : Hid (Below w.heap.size w wr) := hbe
      clear heq
      by_cases hkl : k < A.length
      · have hkz : (k : Int) < (A.length : Int) := by omega
        have hkq : (k : Int) < (B.length : Int) := by have := HL.out; omega
        obtain ⟨x, hx⟩ : ∃ x, A[k]? = some x := ⟨_, List.getElem?_eq_getElem hkl⟩
        obtain ⟨y, hy⟩ : ∃ y, B[k]? = some y := ⟨B[k]'(by have := HL.out; omega), List.getElem?_eq_getElem _⟩
        obtain ⟨g, off, _, e1, k0, k1, k2, k3, k4⟩ := (HA.out.here hbe).cells k x hx
        cases e1
        obtain ⟨g', off', _, e1, n0, n1, n2, n3, n4⟩ := (HB.out.here hbe).cells k y hy
        cases e1
        have okx := (HA.out.here hbe).ok x (List.mem_of_getElem? hx)
        have oky := (HB.out.here hbe).ok y (List.mem_of_getElem? hy)
        have c1' : ∀ q, Sem.run Try.prog (convert 32 9 x.v1) (wr.drewN q) = .ok (.string (strB x.m.lo)) (wr.drewN q) := fun q => conv_key ((okx.lo.at (Nat.le_refl _)).draws q)
        have c2' : ∀ q, Sem.run Try.prog (convert 32 9 x.v2) (wr.drewN q) = .ok (.string (strB x.m.hi)) (wr.drewN q) := fun q => conv_key ((okx.hi.at (Nat.le_refl _)).draws q)
        have c3' : ∀ q, Sem.run Try.prog (convert 32 9 x.v3) (wr.drewN q) = .ok (.string (strB x.m.va)) (wr.drewN q) := fun q => conv_key ((okx.va.at (Nat.le_refl _)).draws q)
        have d1' : ∀ q, Sem.run Try.prog (convert 32 9 y.v1) (wr.drewN q) = .ok (.string (strB y.m.lo)) (wr.drewN q) := fun q => conv_key ((oky.lo.at (Nat.le_refl _)).draws q)
        have d2' : ∀ q, Sem.run Try.prog (convert 32 9 y.v2) (wr.drewN q) = .ok (.string (strB y.m.hi)) (wr.drewN q) := fun q => conv_key ((oky.hi.at (Nat.le_refl _)).draws q)
        have d3' : ∀ q, Sem.run Try.prog (convert 32 9 y.v3) (wr.drewN q) = .ok (.string (strB y.m.va)) (wr.drewN q) := fun q => conv_key ((oky.va.at (Nat.le_refl _)).draws q)
        have s1 := strB_ne' x.m.lo y.m.lo
        have s2 := strB_ne' x.m.hi y.m.hi
        have s3 := strB_ne' x.m.va y.m.va
        have r1 := strB_eq x.m.lo y.m.lo
        have r2 := strB_eq x.m.hi y.m.hi
        have r3 := strB_eq x.m.va y.m.va
        have HNE : Hid (x.m ≠ y.m → decide (msOf A = msOf B) = false) := fun h => by
          rw [decide_eq_false_iff_not]
          intro e
          have h1 := msOf_get hx
          rw [e, msOf_get hy] at h1
          exact h (Option.some.inj h1).symm
        have HSU : Hid (x.m = y.m → (msOf A).take (k + 1) = (msOf B).take (k + 1)) := fun h => by
          rw [List.take_add_one, List.take_add_one, HEQ.out, msOf_get hx, msOf_get hy, h]
        obtain ⟨⟨v1, v2, v3, ⟨st, kd, lo, hi, va⟩⟩, hxe⟩ : ∃ x', x' = x := ⟨x, rfl⟩
        obtain ⟨⟨u1, u2, u3, ⟨st', kd', lo', hi', va'⟩⟩, hye⟩ : ∃ y', y' = y := ⟨y, rfl⟩
        subst hxe hye
        simp only at k0 k1 k2 k3 k4 n0 n1 n2 n3 n4 c1' c2' c3' d1' d2' d3' s1 s2 s3 r1 r2 r3
        clear hbe hx hy okx oky
        by_cases h1 : st = st'
        · have z1 : ((st : Int) != (st' : Int)) = false := by simp [h1]
          by_cases h2 : kd = kd'
          · have z2 : (kd != kd') = false := by simp [h2]
            by_cases h3 : lo = lo'
            · rw [decide_eq_true h3] at s1 r1
              by_cases h4 : hi = hi'
              · rw [decide_eq_true h4] at s2 r2
                by_cases h5 : va = va'
                · rw [decide_eq_true h5] at s3 r3
                  have HN : Hid ((msOf A).take (k + 1) = (msOf B).take (k + 1)) := HSU.out (ms_ext h1 h2 h3 h4 h5)
                  clear h1 h2 h3 h4 h5
                  generalize strB lo = S1 at *
                  generalize strB lo' = S1' at *
                  generalize strB hi = S2 at *
                  generalize strB hi' = S2' at *
                  generalize strB va = S3 at *
                  generalize strB va' = S3' at *
                  go_wp2_with fail
                  go_quiet (fail)
                  go_wp2
                  exact ⟨⟨k + 1, by omega, by go_num, HN.out, below_draws HBE.out _⟩, by simp [intOf]; omega⟩
                · rw [decide_eq_false h5] at s3 r3
                  have HR : Hid (decide (msOf A = msOf B) = false) := HNE.out (fun e => h5 (congrArg Ms.va e))
                  clear h1 h2 h3 h4 h5
                  generalize strB lo = S1 at *
                  generalize strB lo' = S1' at *
                  generalize strB hi = S2 at *
                  generalize strB hi' = S2' at *
                  generalize strB va = S3 at *
                  generalize strB va' = S3' at *
                  go_wp2_with fail
                  go_quiet (fail)
                  go_wp2
                  go_ret
                  exact ⟨ret_bool (by rw [HR.out]), below_draws HBE.out _⟩
              · rw [decide_eq_false h4] at s2 r2
                have HR : Hid (decide (msOf A = msOf B) = false) := HNE.out (fun e => h4 (congrArg Ms.hi e))
                clear h1 h2 h3 h4
                generalize strB lo = S1 at *
                generalize strB lo' = S1' at *
                generalize strB hi = S2 at *
                generalize strB hi' = S2' at *
                go_wp2_with fail
                go_quiet (fail)
                go_wp2
                go_ret
                exact ⟨ret_bool (by rw [HR.out]), below_draws HBE.out _⟩
            · rw [decide_eq_false h3] at s1 r1
              have HR : Hid (decide (msOf A = msOf B) = false) := HNE.out (fun e => h3 (congrArg Ms.lo e))
              clear h1 h2 h3
              generalize strB lo = S1 at *
              generalize strB lo' = S1' at *
              go_wp2_with fail
              go_quiet (fail)
              go_wp2
              go_ret
              exact ⟨ret_bool (by rw [HR.out]), below_draws HBE.out _⟩
          · have z2 : (kd != kd') = true := by simp [h2]
            have HR : Hid (decide (msOf A = msOf B) = false) := HNE.out (fun e => h2 (congrArg Ms.kd e))
            clear h1 h2
            go_wp2_with fail
            go_quiet (fail)
            go_wp2
            go_ret
            exact ⟨ret_bool (by rw [HR.out]), below_draws HBE.out _⟩
        · have z1 : ((st : Int) != (st' : Int)) = true := by simp; omega
          have HR : Hid (decide (msOf A = msOf B) = false) := HNE.out (fun e => h1 (congrArg Ms.st e))
          clear h1
          go_wp2_with fail
          go_quiet (fail)
          go_wp2
          go_ret
          exact ⟨ret_bool (by rw [HR.out]), below_draws HBE.out _⟩
      · have hkz : ¬ (k : Int) < (A.length : Int) := by omega
        have HR : Hid (decide (msOf A = msOf B) = true) := by
          have h1 := HEQ.out
          have hl := HL.out
          rw [List.take_of_length_le (by rw [msOf_length]; omega), List.take_of_length_le (by rw [msOf_length]; omega)] at h1
          rw [Hid, decide_eq_true_iff]
          exact h1
        clear hbe
        go_wp2
        go_ret
        exact ⟨ret_bool (by rw [HR.out]), HBE.out⟩
  · have hz1 : ((A.length : Int) != (B.length : Int)) = true := by simp; omega
    have HR : Hid (decide (msOf A = msOf B) = false) := by
      rw [Hid, decide_eq_false_iff_not]
      intro e
      exact hl (by rw [← msOf_length, e, msOf_length])
    clear hl
    go_enter Try.func26, Try.ntmps26
    go_wp2
    go_ret
    exact ⟨ret_bool (by rw [HR.out]), Below.refl _ _⟩

set_option maxHeartbeats 1600000 in
set_option maxRecDepth 100000 in
theorem same_any {w : World} {v u : Value} {ps qs : List Int} {K L : List Br.Kc} {A B : List Mt} (h : NodeAt w.heap.size w v ps K A) (hu : NodeAt w.heap.size w u qs L B) :
    Calls Try.prog 12 #[v, u] w fun e w' => e = .returned (.bool (decide (nd ps K A = nd qs L B))) ∧ Below w.heap.size w w' := by
  obtain ⟨vp, vk, vm, rfl, h1, h2, h3⟩ := h.is
  obtain ⟨a1, c1, rfl⟩ := h1.form
  obtain ⟨a2, c2, rfl⟩ := h2.form
  obtain ⟨a3, c3, rfl⟩ := h3.form
  obtain ⟨up, uk, um, rfl, h4, h5, h6⟩ := hu.is
  obtain ⟨a4, c4, rfl⟩ := h4.form
  obtain ⟨a5, c5, rfl⟩ := h5.form
  obtain ⟨a6, c6, rfl⟩ := h6.form
  obtain ⟨W, hW⟩ : ∃ W, W = (w.alloc (.cells #[.slice a1 ps.length c1, .slice a2 K.length c2, .slice a3 A.length c3] 31)).alloc (.cells #[.slice a4 qs.length c4, .slice a5 L.length c5, .slice a6 B.length c6] 31) := ⟨_, rfl⟩
  have es : (w.alloc (.cells #[.slice a1 ps.length c1, .slice a2 K.length c2, .slice a3 A.length c3] 31)).heap.size = w.heap.size + 1 := by simp
  have HBW : Hid (Below w.heap.size w W) := by rw [hW]; exact (below_new w _).alloc (by rw [es]; omega) _
  have HX : Hid (NBox W w.heap.size (.slice a1 ps.length c1) (.slice a2 K.length c2) (.slice a3 A.length c3)) := by rw [hW]; exact (NBox.new _ _ _ _).here (below_new _ _)
  have HY : Hid (NBox W (w.heap.size + 1) (.slice a4 qs.length c4) (.slice a5 L.length c5) (.slice a6 B.length c6)) := by rw [hW, ← es]; exact NBox.new _ _ _ _
  have HK := Br.same_any (w := W) (ps := ps) (qs := qs) (L := K) (M := L) ⟨_, _, rfl, h1.here HBW.out, h2.here HBW.out⟩ ⟨_, _, rfl, h4.here HBW.out, h5.here HBW.out⟩
  have HM : Hid (∀ W', Below W.heap.size W W' → Calls Try.prog 26 #[.slice a3 A.length c3, .slice a6 B.length c6] W' fun e w' => e = .returned (.bool (decide (msOf A = msOf B))) ∧ Below W'.heap.size W' w') := fun W' hb => sameMsgs_any ((h3.here HBW.out).here hb) ((h6.here HBW.out).here hb)
  have HE : Hid (decide (nd ps K A = nd qs L B) = (decide (Br.kd ps K = Br.kd qs L) && decide (msOf A = msOf B))) := by
    rw [Hid, Bool.eq_iff_iff]
    simp [nd]
  rw [HE.out]
  obtain ⟨x0, x1, x2⟩ := HX.out.cells
  obtain ⟨y0, y1, y2⟩ := HY.out.cells
  generalize decide (Br.kd ps K = Br.kd qs L) = P at HK ⊢
  generalize decide (msOf A = msOf B) = Q at HM ⊢
  clear h hu h1 h2 h3 h4 h5 h6 HE
  go_enter Try.func12, Try.ntmps12
  go_upto_region 1 with fail
  rw [← hW]
  clear hW
  go_wp2_with fail
  refine HK.mono ?_
  rintro r w1 ⟨rfl, hb1⟩
  have HB1 : Hid (Below W.heap.size W w1) := hb1
  obtain ⟨p0, p1, p2⟩ := (HX.out.here hb1).cells
  obtain ⟨q0, q1, q2⟩ := (HY.out.here hb1).cells
  clear hb1 HK x0 x1 x2 y0 y1 y2
  go_wp2_with fail
  refine (HM.out w1 HB1.out).mono ?_
  rintro r w2 ⟨rfl, hb2⟩
  have HB2 : Hid (Below w.heap.size w w2) := HBW.out.trans ((HB1.out.trans (hb2.mono HB1.out.size)).mono HBW.out.size)
  clear hb2
  cases P with
  | true =>
    go_wp2
    go_ret
    exact ⟨by simp, HB2.out⟩
  | false =>
    go_wp2
    go_ret
    exact ⟨by simp, HB2.out⟩
end Go.Proofs.Ytpmcpomomagkhaa
