/- Next; the law OrderNear's walk. -/
import Derived.Test.YtphohkchffcjeaaTotal
import Derived.Laws.CopyOwn
namespace Go.Proofs.Ytphohkchffcjeaa
open Go.RowKit

theorem madeBytes (n : Nat) : (madeCells (Value.cells (.int .u8 0)) (n * 1)).toList = List.replicate n (.int .u8 0) := by
  simp only [madeCells, Value.cells, Nat.mul_one]
  apply List.ext_getElem
  · simp
  · intro i h1 h2
    simp [Nat.mod_one]
theorem own_full {w : World} {base g n : Nat} {xs : List Value} (h : w.ownsRow base 5 1 (.slice (some ⟨g, 0, none⟩) n n) n xs) : w.heap[g]? = some (.cells xs.toArray 5 (0, 0)) := by
  obtain ⟨hl, hr⟩ := h
  rcases hr with ⟨e, _⟩ | ⟨g', cap, cur, e, _, hg, _, _, hs, ht⟩
  · cases e
  · cases e
    rw [hg, ← ht, List.take_of_length_le (by simp [hs])]
theorem copy_src {B : Nat} {w : World} {a : Option Addr} {bs : List UInt8} (hb : BytesAt B w a bs) (g o : Nat) :
    0 < (bs.map encB).length → some (⟨g, o, none⟩ : Addr) = some ⟨g, o, none⟩ ∧ ∃ ad, a = some ad ∧ ∀ (j : Nat) (v : Value), (bs.map encB)[j]? = some v → w.cell? (ad.add j) = some v := by
  intro hpos
  refine ⟨rfl, ?_⟩
  have h0 : 0 < bs.length := by simpa using hpos
  obtain ⟨c, hc⟩ : ∃ c, bs[0]? = some c := ⟨bs[0], List.getElem?_eq_getElem h0⟩
  obtain ⟨g, off, rfl, _, _⟩ := hb 0 c hc
  refine ⟨_, rfl, fun j v hv => ?_⟩
  rw [List.getElem?_map] at hv
  cases e : bs[j]? with
  | none => rw [e] at hv; cases hv
  | some b =>
    rw [e] at hv
    cases hv
    obtain ⟨g', off', e1, _, hcell⟩ := hb j b e
    cases e1
    rw [add_at]
    exact hcell
theorem oneB (bs : List UInt8) : ∀ v ∈ bs.map encB, v.oneCell' = true := fun v hv => by
  obtain ⟨b, _, rfl⟩ := List.mem_map.1 hv
  rfl
theorem splice_next (k : Key) : splice (List.replicate (k.length + 1) (Value.int .u8 0)) 0 (k.map encB) = (k ++ [0]).map encB := by
  simp [splice, encB, List.drop_replicate]
theorem own_block {w : World} {base g n : Nat} {xs : List Value} (h : w.heap[g]? = some (.cells xs.toArray 5 (0, 0))) (hl : xs.length = n) (hb : base ≤ g) (hm : n ≤ maxLen) : w.ownsRow base 5 1 (.slice (some ⟨g, 0, none⟩) n n) n xs :=
  ⟨by rw [hl, Nat.mul_one], .inr ⟨g, n, xs.toArray, rfl, hb, h, Nat.le_refl _, hm, by simp [hl], by simp [← hl]⟩⟩

set_option maxHeartbeats 800000 in
set_option maxRecDepth 100000 in
theorem next_any {w : World} {v : Value} {k : Key} (h : KeyAt w v k) (hk : k.length + 1 ≤ 140737488355328) :
    Calls Try.prog 24 #[v] w fun e w' => ∃ v', e = .returned v' ∧ NewKey w.heap.size w' v' (k ++ [0]) ∧ Below w.heap.size w w' := by
  obtain ⟨i0, hi, hz0, hz1, hz2⟩ := info5'
  have hsz5 : (Try.prog.info? 5).map (·.size) = some 1 := by rw [hi]; simp [hz1]
  obtain ⟨⟨a, c, rfl, hb, _⟩, _⟩ := h
  have HB : Hid (BytesAt w.heap.size w a k) := hb
  clear hb
  have hmin : (k.map encB).length = Nat.min k.length (k.length + 1) := by rw [List.length_map]; exact (Nat.min_eq_left (by omega)).symm
  have hfit : 0 + (k.map encB).length ≤ (List.replicate (k.length + 1) (Value.int .u8 0)).length := by simp
  go_enter Try.func24, Try.ntmps24
  go_wp2_with (first
    | (at_make; refine wpList_make_full _ rfl _ _ 23 rfl w.heap.size 5 i0 (.int .u8 0) 1 Try.underlying23 hi hz0 hz1 _ _ _ _ (k.length + 1) rfl rfl (by omega) (by omega) (by rw [hz2]; omega) (by unfold maxLen; omega) (Nat.le_refl _) ?_
       intro w0 hown0 hg0
       rw [madeBytes] at hown0
       have HR0 : Hid (w0.heap[w.heap.size]? = some (.cells (List.replicate (k.length + 1) (Value.int .u8 0)).toArray 5 (0, 0))) := own_full hown0
       have HB0 : Hid (Below w.heap.size w w0) := (Below.refl _ _).grown hg0 (Nat.le_refl _) (fun k h => by cases h)
       clear hown0 hg0)
    | (refine wpList_copy_splice rfl _ _ 23 23 rfl 5 Try.underlying23 hsz5 _ _ _ _ _ _ rfl rfl w.heap.size 0 (List.replicate (k.length + 1) (Value.int .u8 0)) 5 HR0.out (k.map encB) hmin (copy_src (HB.out.below HB0.out) _ _) hfit (oneB k) w.heap.size w HB0.out (Nat.le_refl _) ?_
       intro w2 hr2 hb2
       have HB2 : Hid (Below w.heap.size w w2) := hb2
       clear hb2))
  go_ret
  rw [splice_next] at hr2
  have hl : (k ++ [0]).length = k.length + 1 := by simp
  refine ⟨_, rfl, ⟨?_, by rw [hl]; exact hk⟩, HB2.out⟩
  have := own_block (base := w.heap.size) hr2.out (n := k.length + 1) (by simp) (Nat.le_refl _) (by unfold maxLen; omega)
  rw [hl]
  exact this

set_option maxHeartbeats 3200000 in
set_option maxRecDepth 100000 in
theorem near_walk {w : World} {u v t : Value} {x y z : Key} (hu : KeyAt w u x) (hv : KeyAt w v y) (ht : KeyAt w t z) (hx1 : x.length + 1 ≤ 140737488355328) :
    Calls Try.prog 8 #[u, v, t] w fun e w' => e = .returned (.bool true) ∧ Below w.heap.size w w' := by
  have HU : Hid (KeyAt w u x) := hu
  have HV : Hid (KeyAt w v y) := hv
  have HT : Hid (KeyAt w t z) := ht
  obtain ⟨a1, c1, rfl, hb1, hc1, _⟩ := hu.is
  obtain ⟨a2, c2, rfl, hb2, hc2, _⟩ := hv.is
  obtain ⟨a3, c3, rfl, _⟩ := ht.is
  have hsx := hu.short
  have hsy := hv.short
  have hst := ht.short
  clear hu hv ht hb1 hb2
  -- nothing is between
  have HC1 : Hid (cmpK x (x ++ [0]) = -1) := cmpK_lt_one.2 (lt_append x 0 [])
  have HC2 : Hid (cmpK x z = -1 → (cmpK z (x ++ [0]) == -1) = false) := fun h => by
    have h1 := next_least x z (cmpK_lt_one.1 h)
    rw [beq_eq_false_iff_ne]
    intro e
    have := cmpK_lt_one.1 e
    grind
  go_enter Try.func8, Try.ntmps8
  go_wp2_with fail
  refine (awake_any w).mono ?_
  rintro e w1 ⟨rfl, hb1⟩
  have HB1 : Hid (Below w.heap.size w w1) := hb1
  have HU1 : Hid (KeyAt w1 (.slice a1 x.length c1) x) := HU.out.here hb1
  have HV1 : Hid (KeyAt w1 (.slice a2 y.length c2) y) := HV.out.here hb1
  have HT1 : Hid (KeyAt w1 (.slice a3 z.length c3) z) := HT.out.here hb1
  clear hb1
  go_wp2_with fail
  refine (next_any HU1.out hx1).mono ?_
  rintro e w2 ⟨nv, rfl, hn, hb2⟩
  obtain ⟨an, cn, en, _⟩ := hn.at.is
  have hln : (x ++ [0]).length = x.length + 1 := by simp
  rw [hln] at en
  subst en
  have HN2 : Hid (KeyAt w2 (.slice an (x.length + 1) cn) (x ++ [0])) := hn.at
  have HB2 : Hid (Below w.heap.size w w2) := HB1.out.trans (hb2.mono HB1.out.size)
  have HU2 : Hid (KeyAt w2 (.slice a1 x.length c1) x) := HU1.out.here hb2
  have HV2 : Hid (KeyAt w2 (.slice a2 y.length c2) y) := HV1.out.here hb2
  have HT2 : Hid (KeyAt w2 (.slice a3 z.length c3) z) := HT1.out.here hb2
  clear hn hb2 hln
  go_wp2_with fail
  refine (compare_key HU2.out HN2.out).mono ?_
  rintro e _ ⟨rfl, q1, rfl⟩
  rw [HC1.out]
  obtain ⟨W, hW⟩ : ∃ W, W = w2.drewN q1 := ⟨_, rfl⟩
  rw [← hW]
  have hbW : Below w2.heap.size w2 W := by rw [hW]; exact below_draws (Below.refl _ _) _
  have HBW : Hid (Below w.heap.size w W) := HB2.out.trans (hbW.mono HB2.out.size)
  have HUW : Hid (KeyAt W (.slice a1 x.length c1) x) := HU2.out.here hbW
  have HVW : Hid (KeyAt W (.slice a2 y.length c2) y) := HV2.out.here hbW
  have HTW : Hid (KeyAt W (.slice a3 z.length c3) z) := HT2.out.here hbW
  have HNW : Hid (KeyAt W (.slice an (x.length + 1) cn) (x ++ [0])) := HN2.out.here hbW
  clear hW hbW
  go_upto_region 4 with fail
  go_cut [10] (fun s10 wx => s10 = .bool false ∧ Below W.heap.size W wx)
  case first =>
    have hc2 := HC2.out
    go_wp2_with fail
    refine (compare_key HUW.out HTW.out).mono ?_
    rintro e _ ⟨rfl, q2, rfl⟩
    by_cases hz : cmpK x z = -1
    · have hz1 : (cmpK x z == -1) = true := by simp [hz]
      have hz2 := hc2 hz
      clear hc2 hz
      go_wp2_with fail
      refine (compare_key (HTW.out.draws q2) (HNW.out.draws q2)).mono ?_
      rintro e _ ⟨rfl, q3, rfl⟩
      go_wp2_with fail
      go_meet
      exact ⟨by simp, below_draws (Below.refl _ _) _⟩
    · have hz1 : (cmpK x z == -1) = false := by simp [hz]
      clear hc2 hz
      go_wp2_with fail
      go_meet
      exact ⟨by first | rfl | simp [hz1], below_draws (Below.refl _ _) _⟩
  case rest =>
    obtain ⟨rfl, hbc⟩ := hcut
    have HBC : Hid (Below w.heap.size w wc) := HBW.out.trans (hbc.mono HBW.out.size)
    have HUC : Hid (KeyAt wc (.slice a1 x.length c1) x) := HUW.out.here hbc
    have HVC : Hid (KeyAt wc (.slice a2 y.length c2) y) := HVW.out.here hbc
    have HTC : Hid (KeyAt wc (.slice a3 z.length c3) z) := HTW.out.here hbc
    clear hbc
    go_wp2_with fail
    by_cases hlt : x < y
    · refine (between_lt HUC.out HVC.out hlt).mono ?_
      rintro e w5 ⟨kv, rfl, hk, hb5⟩
      have hml := midK_length x y hlt
      obtain ⟨m, hm⟩ : ∃ m, m = comK x y := ⟨_, rfl⟩
      rw [← hm] at hml
      have hmy : m < y.length := by
        have := (lt_iff_com x y).1 hlt
        rw [hm]
        rcases this with ⟨_, h⟩ | ⟨_, h, _⟩ <;> exact h
      obtain ⟨ak, ck, ek, _, hck, _⟩ := hk.at.is
      rw [hml] at ek hck
      subst ek
      have HK5 : Hid (KeyAt w5 (.slice ak (m + 1) ck) (midK x y)) := hk.at
      have HB5 : Hid (Below w.heap.size w w5) := HBC.out.trans (hb5.mono HBC.out.size)
      have HU5 : Hid (KeyAt w5 (.slice a1 x.length c1) x) := HUC.out.here hb5
      have HV5 : Hid (KeyAt w5 (.slice a2 y.length c2) y) := HVC.out.here hb5
      have HT5 : Hid (KeyAt w5 (.slice a3 z.length c3) z) := HTC.out.here hb5
      have HMID : Hid (midK x y = y.take (m + 1)) := by rw [hm]; rfl
      have HXK : Hid (x < midK x y) := midK_above x y hlt
      have HKY : Hid (midK x y ≤ y) := take_le y _
      have HSH : Hid (∀ c : Key, x < c → c ≤ y → m < c.length) := fun c h1 h2 => by rw [hm]; exact midK_short x y c hlt h1 h2
      have HLE : Hid ((midK x y).take m ≤ x) := by rw [hm]; exact midK_less x y
      have hzc : cmpK x y < 0 := cmpK_lt.2 hlt
      clear hk hb5 hm
      go_wp2_with fail
      refine (compare_key HU5.out HV5.out).mono ?_
      rintro e _ ⟨rfl, q4, rfl⟩
      obtain ⟨V, hV⟩ : ∃ V, V = w5.drewN q4 := ⟨_, rfl⟩
      rw [← hV]
      have hbV : Below w5.heap.size w5 V := by rw [hV]; exact below_draws (Below.refl _ _) _
      have HBV : Hid (Below w.heap.size w V) := HB5.out.trans (hbV.mono HB5.out.size)
      have HK6 : Hid (KeyAt V (.slice ak (m + 1) ck) (midK x y)) := HK5.out.here hbV
      have HU6 : Hid (KeyAt V (.slice a1 x.length c1) x) := HU5.out.here hbV
      have HV6 : Hid (KeyAt V (.slice a2 y.length c2) y) := HV5.out.here hbV
      have HT6 : Hid (KeyAt V (.slice a3 z.length c3) z) := HT5.out.here hbV
      clear hV hbV
      have cv1 := conv_draws HK6.out
      have cv2 := conv_draws (HV6.out.cut (m + 1) (by omega))
      rw [← HMID.out] at cv2
      have hm1 : (m : Int) + 1 ≤ (y.length : Int) := by omega
      have hm2 : (m : Int) + 1 ≤ (c2 : Int) := by omega
      have hd1 : decide ((m : Int) + 1 < 1) = false := decide_eq_false (by omega)
      have hd2 : decide ((y.length : Int) < (m : Int) + 1) = false := decide_eq_false (by omega)
      have hd3 : decide (0 ≤ cmpK x (midK x y)) = false := decide_eq_false (fun h => by have := cmpK_ge.1 h; have := HXK.out; grind)
      have hd4 : decide (0 < cmpK (midK x y) y) = false := decide_eq_false (fun h => by have := cmpK_gt.1 h; have := HKY.out; grind)
      go_wp2_with fail
      go_quiet (first
        | (go_at_call_of 22 c1; exact Calls.quiet_of (compare_key (HU6.out.draws _) (HK6.out.draws _)))
        | (go_at_call_of 22 c2; exact Calls.quiet_of (compare_key (HK6.out.draws _) (HV6.out.draws _))))
      obtain ⟨V2, hV2⟩ : ∃ V2, V2 = V.drewN nq := ⟨_, rfl⟩
      rw [← hV2]
      have hbV : Below V.heap.size V V2 := by rw [hV2]; exact below_draws (Below.refl _ _) _
      have HBV2 : Hid (Below w.heap.size w V2) := HBV.out.trans (hbV.mono HBV.out.size)
      have HK7 : Hid (KeyAt V2 (.slice ak (m + 1) ck) (midK x y)) := HK6.out.here hbV
      have HU7 : Hid (KeyAt V2 (.slice a1 x.length c1) x) := HU6.out.here hbV
      have HV7 : Hid (KeyAt V2 (.slice a2 y.length c2) y) := HV6.out.here hbV
      have HT7 : Hid (KeyAt V2 (.slice a3 z.length c3) z) := HT6.out.here hbV
      clear hV2 hbV cv1 cv2
      have hn1 : decide (m + 1 < 1) = false := decide_eq_false (by omega)
      have hn2 : decide (y.length < m + 1) = false := decide_eq_false (by omega)
      go_upto_region 13 with fail
      go_cut [14] (fun s14 wx => s14 = .bool false ∧ Below V2.heap.size V2 wx)
      case first =>
        by_cases h1 : z.length < m + 1
        · have h1z : (z.length : Int) < (m : Int) + 1 := by omega
          go_wp2_with fail
          refine (compare_key HU7.out HT7.out).mono ?_
          rintro e _ ⟨rfl, q5, rfl⟩
          by_cases h2 : x < z
          · have h2z : cmpK x z < 0 := cmpK_lt.2 h2
            have h3 : ¬ z ≤ y := fun h => by have := HSH.out z h2 h; omega
            have h3z : decide (cmpK z y ≤ 0) = false := decide_eq_false (fun h => h3 (cmpK_le.1 h))
            clear h1 h2 h3
            go_wp2_with fail
            refine (compare_key (HT7.out.draws q5) (HV7.out.draws q5)).mono ?_
            rintro e _ ⟨rfl, q6, rfl⟩
            go_wp2_with fail
            go_meet
            exact ⟨by first | rfl | simp [h3z], below_draws (Below.refl _ _) _⟩
          · have h2z : decide (cmpK x z < 0) = false := decide_eq_false (fun h => h2 (cmpK_lt.1 h))
            clear h1 h2
            go_wp2_with fail
            go_meet
            exact ⟨by first | rfl | simp [h2z], below_draws (Below.refl _ _) _⟩
        · have h1z : decide ((z.length : Int) < (m : Int) + 1) = false := decide_eq_false (by omega)
          have h1n : decide (z.length < m + 1) = false := decide_eq_false h1
          clear h1
          go_wp2_with fail
          go_meet
          exact ⟨by first | rfl | simp [h1n], Below.refl _ _⟩
      case rest =>
        obtain ⟨rfl, hbc⟩ := hcut
        have HBZ : Hid (Below w.heap.size w wc) := HBV2.out.trans (hbc.mono HBV2.out.size)
        have HK8 : Hid (KeyAt wc (.slice ak m ck) ((midK x y).take m)) := by
          have := HK7.out.here hbc
          rw [← hml] at this
          exact this.cut m (by omega)
        have HU8 : Hid (KeyAt wc (.slice a1 x.length c1) x) := HU7.out.here hbc
        have hle : cmpK ((midK x y).take m) x ≤ 0 := cmpK_le.2 HLE.out
        have hmc : (m : Int) ≤ (ck : Int) := by omega
        clear hbc
        go_wp2_with fail
        refine (compare_key HK8.out HU8.out).mono ?_
        rintro e _ ⟨rfl, q7, rfl⟩
        go_wp2
        go_ret
        exact ⟨by first | rfl | exact ret_bool (by simp [hle]), below_draws HBZ.out _⟩
    · refine (between_ge HUC.out HVC.out hlt).mono ?_
      rintro e w5 ⟨rfl, hb5⟩
      have HB5 : Hid (Below w.heap.size w w5) := HBC.out.trans (hb5.mono HBC.out.size)
      have HU5 : Hid (KeyAt w5 (.slice a1 x.length c1) x) := HUC.out.here hb5
      have HV5 : Hid (KeyAt w5 (.slice a2 y.length c2) y) := HVC.out.here hb5
      have hzc : ¬ cmpK x y < 0 := fun h => hlt (cmpK_lt.1 h)
      have hzd : decide (cmpK x y < 0) = false := decide_eq_false hzc
      clear hb5
      go_wp2_with fail
      refine (compare_key HU5.out HV5.out).mono ?_
      rintro e _ ⟨rfl, q4, rfl⟩
      go_wp2
      go_ret
      exact ⟨rfl, below_draws HB5.out _⟩
end Go.Proofs.Ytphohkchffcjeaa
