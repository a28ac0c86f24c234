/- The law OrderTotal's walk. -/
import Derived.Test.YtphohkchffcjeaaAlive
namespace Go.Proofs.Ytphohkchffcjeaa
open Go.RowKit

/-- An order. -/
theorem total_trans (x y z : Key) : ¬ (cmpK x y ≤ 0 ∧ cmpK y z ≤ 0 ∧ (0 < cmpK x z ∨ (cmpK x z = 0 ∧ (cmpK x y ≠ 0 ∨ cmpK y z ≠ 0)))) := by
  simp only [cmpK_le, cmpK_gt, ne_eq, cmpK_eq]
  rintro ⟨h1, h2, h | ⟨rfl, h | h⟩⟩
  · grind
  · exact h (by grind)
  · exact h (by grind)

theorem conv_draws {w : World} {v : Value} {k : Key} (h : KeyAt w v k) (q : Nat) : (convert 23 9 v).run Try.prog (w.drewN q) = .ok (.string (strB k)) (w.drewN q) := conv_key (h.draws q)
theorem KeyAt.cut {w : World} {a : Option Addr} {c : Nat} {k : Key} (h : KeyAt w (.slice a k.length c) k) (n : Nat) (hn : n ≤ k.length) : KeyAt w (.slice a n c) (k.take n) := by
  obtain ⟨⟨a', c', e, h1, h2, h3⟩, h4⟩ := h
  cases e
  have hl : (k.take n).length = n := by rw [List.length_take]; omega
  refine ⟨⟨a, c, by rw [hl], h1.take n, by rw [hl]; omega, h3⟩, by rw [hl]; omega⟩
/-- What is known of two keys, in numbers. -/
structure Held (x y : Key) (X : Int) : Prop where
  is : cmpK x y = X
  back : cmpK y x = -X
  alike : ((strB x).toList == (strB y).toList) = (X == 0)
  three : X = -1 ∨ X = 0 ∨ X = 1
theorem held (x y : Key) : ∃ X, Held x y X := by
  refine ⟨cmpK x y, rfl, cmpK_neg x y, ?_, cmpK_three x y⟩
  rw [strB_eq]
  by_cases h : x = y
  · subst h; simp [cmpK_eq]
  · have : ¬ cmpK x y = 0 := fun e => h (cmpK_eq.1 e)
    simp [this, h]

set_option maxHeartbeats 3200000 in
set_option maxRecDepth 100000 in
theorem total_walk {w : World} {u v t : Value} {x y z : Key} (hu : KeyAt w u x) (hv : KeyAt w v y) (ht : KeyAt w t z) :
    Calls Try.prog 7 #[u, v, t] w fun e w' => e = .returned (.bool true) ∧ Below w.heap.size w w' := by
  have HU : Hid (KeyAt w u x) := hu
  have HV : Hid (KeyAt w v y) := hv
  have HT : Hid (KeyAt w t z) := ht
  obtain ⟨a1, c1, rfl, hb1, hc1, _⟩ := hu.is
  obtain ⟨a2, c2, rfl, hb2, hc2, _⟩ := hv.is
  obtain ⟨a3, c3, rfl, _⟩ := ht.is
  have hsx := hu.short
  have hsy := hv.short
  clear hu hv ht
  have HBX : Hid (BytesAt w.heap.size w a1 x) := hb1
  have HBY : Hid (BytesAt w.heap.size w a2 y) := hb2
  clear hb1 hb2
  obtain ⟨X, hX⟩ := held x y
  have hstr := hX.alike
  have HTR : Hid (¬ (X ≤ 0 ∧ cmpK y z ≤ 0 ∧ (0 < cmpK x z ∨ (cmpK x z = 0 ∧ (X ≠ 0 ∨ cmpK y z ≠ 0))))) := by rw [← hX.is]; exact total_trans x y z
  have HX : Hid (Held x y X) := hX
  obtain ⟨n, hn⟩ : ∃ n, comK x y = n := ⟨_, rfl⟩
  have hnx : n ≤ x.length := by rw [← hn]; exact comK_left x y
  have hny : n ≤ y.length := by rw [← hn]; exact comK_right x y
  have HN : Hid (comK x y = n) := hn
  have HN2 : Hid (comK y x = n) := by rw [Hid, comK_comm]; exact hn
  have HTK : Hid (x.take n = y.take n) := by rw [← hn]; exact comK_take x y
  have HLT : Hid (X < 0 ↔ (n = x.length ∧ n < y.length) ∨ ∃ (h1 : n < x.length) (h2 : n < y.length), x[n] < y[n]) := by
    have h1 := lt_iff_com x y
    rw [hn] at h1
    rw [← hX.is, cmpK_lt]
    exact h1
  have HEQ : Hid (X = 0 ↔ n = x.length ∧ n = y.length) := by
    have h1 := eq_iff_com x y
    rw [hn] at h1
    rw [← hX.is, cmpK_eq]
    exact h1
  have HPT : Hid (∀ (h1 : n < x.length) (h2 : n < y.length), x[n] ≠ y[n]) := by
    have h1 := comK_part x y
    rw [hn] at h1
    exact h1
  have hX3 := hX.three
  clear hn hX
  obtain ⟨Y, hY⟩ : ∃ Y, cmpK y z = Y := ⟨_, rfl⟩
  have hY3 := cmpK_three y z
  obtain ⟨Z, hZ⟩ : ∃ Z, cmpK x z = Z := ⟨_, rfl⟩
  have hZ3 := cmpK_three x z
  rw [hY] at HTR hY3
  rw [hZ] at HTR hZ3
  have HYE : Hid (cmpK y z = Y) := hY
  have HZE : Hid (cmpK x z = Z) := hZ
  have hxn : (n : Int) ≤ (x.length : Int) := by omega
  have hyn : (n : Int) ≤ (y.length : Int) := by omega
  have hc1z : (n : Int) ≤ (c1 : Int) := by omega
  have hc2z : (n : Int) ≤ (c2 : Int) := by omega
  clear hY hZ
  go_enter Try.func7, Try.ntmps7
  go_wp2_with fail
  refine (awake_any w).mono ?_
  rintro e w1 ⟨rfl, hb1⟩
  have HB1 : Hid (Below w.heap.size w w1) := hb1
  have HU1 : Hid (KeyAt w1 (.slice a1 x.length c1) x) := HU.out.here hb1
  have HV1 : Hid (KeyAt w1 (.slice a2 y.length c2) y) := HV.out.here hb1
  have HT1 : Hid (KeyAt w1 (.slice a3 z.length c3) z) := HT.out.here hb1
  clear hb1
  go_wp2_with fail
  refine (compare_key HU1.out HV1.out).mono ?_
  rintro e _ ⟨rfl, q1, rfl⟩
  rw [HX.out.is]
  go_wp2_with fail
  refine (compare_key (HV1.out.draws q1) (HT1.out.draws q1)).mono ?_
  rintro e _ ⟨rfl, q2, rfl⟩
  rw [HYE.out]
  go_wp2_with fail
  refine (compare_key (w := w1.drewN (q1 + q2)) (HU1.out.draws _) (HT1.out.draws _)).mono ?_
  rintro e _ ⟨rfl, q3, rfl⟩
  rw [HZE.out]
  go_wp2_with fail
  refine (common_key (w := w1.drewN (q1 + q2 + q3)) (HU1.out.draws _) (HV1.out.draws _)).mono ?_
  rintro e _ ⟨rfl, q4, rfl⟩
  rw [HN.out]
  go_wp2_with fail
  refine (compare_key (w := w1.drewN (q1 + q2 + q3 + q4)) (HV1.out.draws _) (HU1.out.draws _)).mono ?_
  rintro e _ ⟨rfl, q5, rfl⟩
  rw [HX.out.back]
  obtain ⟨W, hW⟩ : ∃ W, W = w1.drewN (q1 + q2 + q3 + q4 + q5) := ⟨_, rfl⟩
  have hWE : (w1.drewN (q1 + q2 + q3 + q4)).drewN q5 = W := by rw [hW, draws_add]
  rw [hWE]
  have HBW : Hid (Below w1.heap.size w1 W) := by rw [hW]; exact below_draws (Below.refl _ _) _
  have cv1 := conv_key (HU1.out.here HBW.out)
  have cv2 := conv_key (HV1.out.here HBW.out)
  clear hW hWE
  have HKX : Hid (KeyAt W (.slice a1 x.length c1) x) := HU1.out.here HBW.out
  have HKY : Hid (KeyAt W (.slice a2 y.length c2) y) := HV1.out.here HBW.out
  have HBWW : Hid (Below w.heap.size w W) := HB1.out.trans (HBW.out.mono HB1.out.size)
  rcases hX3 with rfl | rfl | rfl
  all_goals
    have hstr' := hstr
    simp only [Int.reduceBEq, Int.reduceNeg] at hstr'
    clear hstr
    go_wp2_with fail
    refine (common_key HKY.out HKX.out).mono ?_
    rintro e _ ⟨rfl, q6, rfl⟩
    rw [HN2.out]
    obtain ⟨V, hV⟩ : ∃ V, V = W.drewN q6 := ⟨_, rfl⟩
    rw [← hV]
    have HBV : Hid (Below w.heap.size w V) := by rw [hV]; exact below_draws HBWW.out q6
    clear hV cv1 cv2 hstr'
    go_upto_region 8 with fail
    go_cut [81] (fun s81 wx => s81 = .bool false ∧ wx = V)
    case first =>
      rcases hY3 with rfl | rfl | rfl <;> rcases hZ3 with rfl | rfl | rfl
      all_goals
        first
          | exact absurd (by decide) HTR.out
          | (go_wp2_with fail
             go_meet
             exact ⟨rfl, rfl⟩)
    case rest =>
      obtain ⟨rfl, rfl⟩ := hcut
      have HVX : Hid (KeyAt wc (.slice a1 x.length c1) x) := HU.out.here HBV.out
      have HVY : Hid (KeyAt wc (.slice a2 y.length c2) y) := HV.out.here HBV.out
      have cv1 := conv_draws (HVX.out.cut n hnx)
      have cv2 := conv_draws (HVY.out.cut n hny)
      rw [← HTK.out] at cv2
      go_wp2_with fail
      go_quiet (fail)
      obtain ⟨V2, hV2⟩ : ∃ V2, V2 = wc.drewN nq := ⟨_, rfl⟩
      rw [← hV2]
      have HBV2 : Hid (Below w.heap.size w V2) := by rw [hV2]; exact below_draws HBV.out nq
      clear hV2 cv1 cv2
      have hd1 : decide (x.length < n) = false := decide_eq_false (by omega)
      have hd2 : decide (y.length < n) = false := decide_eq_false (by omega)
      simp only [hd1, hd2, Bool.or_self]
      have HX2 : Hid (BytesAt V2.heap.size V2 a1 x) := HBX.out.here HBV2.out
      have HY2 : Hid (BytesAt V2.heap.size V2 a2 y) := HBY.out.here HBV2.out
      by_cases h1 : n = x.length
      · by_cases h2 : n < y.length
        · first
            | exact absurd (HLT.out.2 (.inl ⟨h1, h2⟩)) (by decide)
            | (have hb1 : ((n : Int) == (x.length : Int)) = true := by simp [h1]
               have hl1 : (x.length : Int) < (y.length : Int) := by omega
               have hl3 : decide (x.length < y.length) = true := decide_eq_true (by omega)
               have hl2 : ((x.length : Int) == (y.length : Int)) = false := by rw [beq_eq_false_iff_ne]; omega
               clear h1 h2 hxn hyn hnx hny
               go_wp2
               go_ret
               exact ⟨by first | rfl | exact ret_bool (by simp [hl3]), HBV2.out⟩)
        · have h3 : n = y.length := by omega
          first
            | exact absurd (HEQ.out.2 ⟨h1, h3⟩) (by decide)
            | (have hb1 : ((n : Int) == (x.length : Int)) = true := by simp [h1]
               have hl1 : ¬ (x.length : Int) < (y.length : Int) := by omega
               have hl3 : decide (x.length < y.length) = false := decide_eq_false (by omega)
               have hl2 : ((x.length : Int) == (y.length : Int)) = true := by rw [beq_iff_eq]; omega
               clear h1 h2 h3 hxn hyn hnx hny
               go_wp2
               go_ret
               exact ⟨by first | rfl | exact ret_bool (by simp [hl3]), HBV2.out⟩)
      · have hb1 : ((n : Int) == (x.length : Int)) = false := by rw [beq_eq_false_iff_ne]; omega
        have h1' : n < x.length := by omega
        by_cases h2 : n < y.length
        · obtain ⟨c, hc⟩ : ∃ c, x[n]? = some c := ⟨x[n]'(by omega), List.getElem?_eq_getElem (by omega)⟩
          obtain ⟨d, hd⟩ : ∃ d, y[n]? = some d := ⟨y[n]'(by omega), List.getElem?_eq_getElem (by omega)⟩
          obtain ⟨_, hce⟩ := List.getElem?_eq_some_iff.1 hc
          obtain ⟨_, hde⟩ := List.getElem?_eq_some_iff.1 hd
          obtain ⟨g, off, rfl, hg, hcell⟩ := HX2.out n c hc
          obtain ⟨g', off', rfl, hg', hcell'⟩ := HY2.out n d hd
          have hb2 : ((n : Int) == (y.length : Int)) = false := by rw [beq_eq_false_iff_ne]; omega
          have hz1 : (n : Int) < (x.length : Int) := by omega
          have hz2 : (n : Int) < (y.length : Int) := by omega
          have hcd : c ≠ d := by rw [← hce, ← hde]; exact HPT.out h1' h2
          have hne : ((c.toNat : Int) != (d.toNat : Int)) = true := by have := byte_ne hcd; simpa using this
          by_cases hlt : c < d
          · first
              | exact absurd (HLT.out.2 (.inr ⟨h1', h2, by rw [hce, hde]; exact hlt⟩)) (by decide)
              | (have hz3 : (c.toNat : Int) < (d.toNat : Int) := by have := UInt8.lt_iff_toNat_lt.1 hlt; omega
                 clear h1 h2 h1' hxn hyn hnx hny hc hd hcd
                 go_wp2_with fail
                 go_quiet (fail)
                 go_wp2
                 go_ret
                 exact ⟨by first | rfl | exact ret_bool (by simp [hz4]), below_draws HBV2.out _⟩)
          · have hz3 : ¬ (c.toNat : Int) < (d.toNat : Int) := by
              intro h
              exact hlt (UInt8.lt_iff_toNat_lt.2 (by omega))
            have hz4 : decide (c.toNat < d.toNat) = false := decide_eq_false (by omega)
            first
              | exact absurd (HLT.out.1 (by decide)) (by
                  rintro (⟨h, _⟩ | ⟨_, _, h⟩)
                  · exact h1 h
                  · rw [hce, hde] at h; exact hlt h)
              | exact absurd (HEQ.out.1 (by decide)).1 h1
              | (clear h1 h2 h1' hxn hyn hnx hny hc hd hcd
                 go_wp2_with fail
                 go_quiet (fail)
                 go_wp2
                 go_ret
                 exact ⟨by first | rfl | exact ret_bool (by simp [hz4]), below_draws HBV2.out _⟩)
        · have h3 : n = y.length := by omega
          have hb2 : ((n : Int) == (y.length : Int)) = true := by simp [h3]
          first
            | exact absurd (HLT.out.1 (by decide)) (by
                rintro (⟨h, _⟩ | ⟨_, h, _⟩)
                · exact h1 h
                · exact h2 h)
            | exact absurd (HEQ.out.1 (by decide)).1 h1
            | (have hl1 : ¬ (x.length : Int) < (y.length : Int) := by omega
               have hl3 : decide (x.length < y.length) = false := decide_eq_false (by omega)
               have hl2 : ((x.length : Int) == (y.length : Int)) = false := by rw [beq_eq_false_iff_ne]; omega
               clear h1 h2 h1' h3 hxn hyn hnx hny
               go_wp2
               go_ret
               exact ⟨by first | rfl | exact ret_bool (by simp [hl3]), HBV2.out⟩)
end Go.Proofs.Ytphohkchffcjeaa
