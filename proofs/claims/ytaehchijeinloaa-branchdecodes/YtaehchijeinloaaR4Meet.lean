/- The document's answers for ranges (banyanref04), for the seat of BranchSpans. -/
import Derived.Test.YtaehchijeinloaaCopies
import Derived.Test.YtaehchijeinloaaForm
import Derived.Test.YtaehchijeinloaaMinus
import Derived.Deep.MidRow
import Derived.Laws.CopyOwn
import Derived.Deep.RegionHeldLaw
namespace Go.Proofs.Ytaehchijeinloaa
open Go.RowKit

theorem cmp_here {x y : Key} {k : Nat} {c d : UInt8} (h : x.take k = y.take k) (hx : x[k]? = some c) (hy : y[k]? = some d) (hlt : c < d) : cmpK x y = -1 := by
  have hk := com_here h hx hy (by grind)
  obtain ⟨h1, rfl⟩ := List.getElem?_eq_some_iff.1 hx
  obtain ⟨h2, rfl⟩ := List.getElem?_eq_some_iff.1 hy
  subst hk
  rw [cmpK_lt_one]
  exact (lt_iff_com x y).2 (.inr ⟨h1, h2, hlt⟩)
theorem cmp_there {x y : Key} {k : Nat} {c d : UInt8} (h : x.take k = y.take k) (hx : x[k]? = some c) (hy : y[k]? = some d) (hlt : d < c) : cmpK x y = 1 := by
  have := cmp_here h.symm hy hx hlt
  rw [cmpK_neg, this]
  rfl
theorem cmp_left {x y : Key} (h : x.take x.length = y.take x.length) (hl : x.length < y.length) : cmpK x y = -1 := by
  rw [cmpK_lt_one]
  exact (lt_iff_com x y).2 (.inl (by have := com_end h (Nat.le_refl _) (by omega) (.inl rfl); omega))
theorem cmp_right {x y : Key} (h : x.take y.length = y.take y.length) (hl : y.length < x.length) : cmpK x y = 1 := by
  have := cmp_left h.symm hl
  rw [cmpK_neg, this]
  rfl
theorem cmp_same {x y : Key} (h : x.take x.length = y.take x.length) (hl : x.length = y.length) : cmpK x y = 0 := by
  rw [cmpK_eq]
  rw [List.take_length, hl, List.take_length] at h
  exact h
set_option maxHeartbeats 800000 in
set_option maxRecDepth 100000 in
theorem refCompare_key {w : World} {u v : Value} {x y : Key} (hu : KeyAt w u x) (hv : KeyAt w v y) :
    Calls Try.prog 67 #[u, v] w fun e w' => e = .returned (.int .i64 (cmpK x y)) ∧ ∃ q, w' = w.drewN q := by
  obtain ⟨⟨a, ca, rfl, hx, _⟩, lx⟩ := hu
  obtain ⟨⟨b, cb, rfl, hy, _⟩, ly⟩ := hv
  have HX : Hid (BytesAt w.heap.size w a x) := hx
  have HY : Hid (BytesAt w.heap.size w b y) := hy
  clear hx hy
  by_cases hyx : y.length < x.length
  all_goals
    go_enter Try.func67, Try.ntmps67
    go_wp2
    go_loopw [6] (fun i wx => ∃ k : Nat, k ≤ x.length ∧ k ≤ y.length ∧ i = .int .i64 k ∧ x.take k = y.take k ∧ ∃ q, wx = w.drewN q) (fun i _ => x.length - (intOf i).toNat)
    case atStart => exact ⟨0, by omega, by omega, rfl, by simp, 0, rfl⟩
    case round =>
      obtain ⟨k, hkx, hky, rfl, ht, q, rfl⟩ := hrel
      have HT : Hid (x.take k = y.take k) := ht
      clear ht
      by_cases hlt : k < x.length ∧ k < y.length
      · obtain ⟨h1, h2⟩ := hlt
        have h1z : (k : Int) < (x.length : Int) := by omega
        have h2z : (k : Int) < (y.length : Int) := by omega
        obtain ⟨c, hc⟩ : ∃ c, x[k]? = some c := ⟨x[k]'(by omega), List.getElem?_eq_getElem (by omega)⟩
        obtain ⟨d, hd⟩ : ∃ d, y[k]? = some d := ⟨y[k]'(by omega), List.getElem?_eq_getElem (by omega)⟩
        obtain ⟨g, off, rfl, hg, hcell⟩ := HX.out k c hc
        obtain ⟨g', off', rfl, hg', hcell'⟩ := HY.out k d hd
        have HC : Hid (x[k]? = some c) := hc
        have HD : Hid (y[k]? = some d) := hd
        clear hc hd
        by_cases hcd : c < d
        · have HR : Hid (cmpK x y = -1) := cmp_here HT.out HC.out HD.out hcd
          have hz : (c.toNat : Int) < (d.toNat : Int) := by have := UInt8.lt_iff_toNat_lt.1 hcd; omega
          have hz' : c.toNat < d.toNat := by omega
          go_wp2_with fail
          go_quiet (fail)
          go_wp2
          go_ret
          exact ⟨by rw [HR.out]; rfl, _, by first | rfl | exact draws_add _ _ _ | rw [draws_add, draws_add]⟩
        · have hz : ¬ (c.toNat : Int) < (d.toNat : Int) := fun h => hcd (UInt8.lt_iff_toNat_lt.2 (by omega))
          have hz' : ¬ c.toNat < d.toNat := by omega
          by_cases hdc : d < c
          · have HR : Hid (cmpK x y = 1) := cmp_there HT.out HC.out HD.out hdc
            have hy : (d.toNat : Int) < (c.toNat : Int) := by have := UInt8.lt_iff_toNat_lt.1 hdc; omega
            have hy' : d.toNat < c.toNat := by omega
            go_wp2_with fail
            go_quiet (fail)
            go_wp2_with fail
            go_quiet (fail)
            go_wp2
            go_ret
            exact ⟨by rw [HR.out]; rfl, _, by first | rfl | exact draws_add _ _ _ | rw [draws_add, draws_add]⟩
          · have e : c = d := by grind
            subst e
            clear hcd hdc
            go_wp2_with fail
            go_quiet (fail)
            go_wp2_with fail
            go_quiet (fail)
            go_wp2
            exact ⟨⟨k + 1, by omega, by omega, by go_num, take_same HT.out HC.out HD.out, _, by first | rfl | exact draws_add _ _ _ | rw [draws_add, draws_add]⟩, by simp [intOf]; omega⟩
      · by_cases hxy : x.length < y.length
        · first
            | (exfalso; omega)
            | (obtain rfl : k = x.length := by omega
               have HR : Hid (cmpK x y = -1) := cmp_left HT.out hxy
               go_wp2
               go_ret
               exact ⟨by rw [HR.out]; rfl, q, rfl⟩)
        · by_cases hxy2 : y.length < x.length
          · first
              | (exfalso; omega)
              | (obtain rfl : k = y.length := by omega
                 have HR : Hid (cmpK x y = 1) := cmp_right HT.out hxy2
                 go_wp2
                 go_ret
                 exact ⟨by rw [HR.out]; rfl, q, rfl⟩)
          · first
              | (exfalso; omega)
              | (have hxe : x.length = y.length := by omega
                 obtain rfl : k = x.length := by omega
                 have HR : Hid (cmpK x y = 0) := cmp_same HT.out hxe
                 go_wp2
                 go_ret
                 exact ⟨by rw [HR.out]; rfl, q, rfl⟩)
set_option maxRecDepth 100000 in
theorem refLess_key {w : World} {u v : Value} {x y : Key} (hu : KeyAt w u x) (hv : KeyAt w v y) :
    Calls Try.prog 58 #[u, v] w fun e w' => e = .returned (.bool (decide (x < y))) ∧ ∃ q, w' = w.drewN q := by
  have HC := refCompare_key hu hv
  obtain ⟨a, ca, rfl, _⟩ := hu.is
  obtain ⟨b, cb, rfl, _⟩ := hv.is
  have HE : Hid (decide (cmpK x y < 0) = decide (x < y)) := by simp [Hid, cmpK_lt]
  clear hu hv
  go_enter Try.func58, Try.ntmps58
  go_wp2_with (go_at_call 67; refine HC.mono ?_; rintro e w' ⟨rfl, q, rfl⟩)
  go_ret
  exact ⟨ret_bool (by simpa using HE.out), q, rfl⟩
set_option maxHeartbeats 800000 in
set_option maxRecDepth 100000 in
theorem refCopy_any {w : World} {v : Value} {k : Key} (h : KeyAt w v k) :
    Calls Try.prog 69 #[v] w fun e w' => ∃ v', e = .returned v' ∧ NewKey w.heap.size w' v' k ∧ Below w.heap.size w w' := by
  obtain ⟨i0, hi, hz0, hz1, hz2⟩ := info5'
  have hsz5 : (Try.prog.info? 5).map (·.size) = some 1 := by rw [hi]; simp [hz1]
  obtain ⟨⟨a, c, rfl, hb, _⟩, hk⟩ := h
  have HB : Hid (BytesAt w.heap.size w a k) := hb
  clear hb
  have hmin : (k.map encB).length = Nat.min k.length k.length := by rw [List.length_map]; exact (Nat.min_self _).symm
  have hfit : 0 + (k.map encB).length ≤ (List.replicate (k.length) (Value.int .u8 0)).length := by simp
  go_enter Try.func69, Try.ntmps69
  go_wp2_with (first
    | (at_make; refine wpList_make_full _ rfl _ _ 27 rfl w.heap.size 5 i0 (.int .u8 0) 1 Try.underlying27 hi hz0 hz1 _ _ _ _ (k.length) rfl rfl (by omega) (by omega) (by rw [hz2]; omega) (by unfold maxLen; omega) (Nat.le_refl _) ?_
       intro w0 hown0 hg0
       rw [madeBytes] at hown0
       have HR0 : Hid (w0.heap[w.heap.size]? = some (.cells (List.replicate (k.length) (Value.int .u8 0)).toArray 5 (0, 0))) := own_full hown0
       have HB0 : Hid (Below w.heap.size w w0) := (Below.refl _ _).grown hg0 (Nat.le_refl _) (fun k h => by cases h)
       clear hown0 hg0)
    | (refine wpList_copy_splice rfl _ _ 27 27 rfl 5 Try.underlying27 hsz5 _ _ _ _ _ _ rfl rfl w.heap.size 0 (List.replicate (k.length) (Value.int .u8 0)) 5 HR0.out (k.map encB) hmin (copy_src (HB.out.below HB0.out) _ _) hfit (oneB k) w.heap.size w HB0.out (Nat.le_refl _) ?_
       intro w2 hr2 hb2
       have HB2 : Hid (Below w.heap.size w w2) := hb2
       clear hb2))
  go_ret
  rw [splice_copy] at hr2
  refine ⟨_, rfl, ⟨?_, hk⟩, HB2.out⟩
  have := own_block (base := w.heap.size) hr2.out (n := k.length) (by simp) (Nat.le_refl _) (by unfold maxLen; omega)
  exact this
set_option maxRecDepth 100000 in
theorem refEmpty_any {w : World} {v : Value} {r : Rg} (h : RangeAt w v r) :
    Calls Try.prog 68 #[v] w fun e w' => e = .returned (.bool r.empty) ∧ Below w.heap.size w w' := by
  obtain ⟨v1, v2, rfl, h1, h2⟩ := h.is
  obtain ⟨lo, hi, all⟩ := r
  obtain ⟨⟨a, c, rfl, hb, hx⟩, hl⟩ := h1
  obtain ⟨⟨a', c', rfl, hb', hx'⟩, hl'⟩ := h2
  simp only [Rg.empty] at *
  have HB0 : Hid (Below w.heap.size w (w.alloc (.cells #[.slice a lo.length c, .slice a' hi.length c', .bool all] 47))) := below_new _ _
  have HCO := refCompare_key (KeyAt.here ⟨⟨a, c, rfl, hb, hx⟩, hl⟩ HB0.out) (KeyAt.here ⟨⟨a', c', rfl, hb', hx'⟩, hl'⟩ HB0.out)
  have HE : Hid (decide (0 ≤ cmpK lo hi) = decide (hi ≤ lo)) := by simp [Hid, cmpK_ge]
  clear hb hb' h
  cases all with
  | true =>
    go_enter Try.func68, Try.ntmps68
    go_wp2_with (go_at_call 67; refine HCO.mono ?_; rintro e w' ⟨rfl, q, rfl⟩)
    go_ret
    exact ⟨rfl, below_draws HB0.out q⟩
  | false =>
    go_enter Try.func68, Try.ntmps68
    go_wp2_with (go_at_call 67; refine HCO.mono ?_; rintro e w' ⟨rfl, q, rfl⟩)
    go_ret
    exact ⟨ret_bool (by simpa using HE.out), below_draws HB0.out q⟩
set_option maxHeartbeats 1600000 in
set_option maxRecDepth 100000 in
theorem refForm_any {w : World} {v : Value} {r : Rg} (h : RangeAt w v r) :
    Calls Try.prog 59 #[v] w fun e w' => ∃ v', e = .returned v' ∧ NewRange w.heap.size w' v' r.form ∧ Below w.heap.size w w' := by
  obtain ⟨v1, v2, rfl, h1, h2⟩ := h.is
  obtain ⟨lo, hi, all⟩ := r
  obtain ⟨⟨a, c, rfl, hb, hx⟩, hl⟩ := h1
  obtain ⟨⟨a', c', rfl, hb', hx'⟩, hl'⟩ := h2
  simp only at *
  have HE0 : Hid (RangeAt w (.agg #[.slice a lo.length c, .slice a' hi.length c', .bool all]) ⟨lo, hi, all⟩) := h
  have HK1 : Hid (KeyAt w (.slice a lo.length c) lo) := ⟨⟨a, c, rfl, hb, hx⟩, hl⟩
  have HK2 : Hid (KeyAt w (.slice a' hi.length c') hi) := ⟨⟨a', c', rfl, hb', hx'⟩, hl'⟩
  clear h hb hb' hx hx' hl hl'
  go_enter Try.func59, Try.ntmps59
  go_wp2_with fail
  obtain ⟨W, hW⟩ : ∃ W, W = (w.alloc (.cells #[.slice a lo.length c, .slice a' hi.length c', .bool all] 47)).alloc (.cells #[.slice none 0 0, .slice none 0 0, .bool false] 47) := ⟨_, rfl⟩
  rw [← hW]
  have hbW : Below w.heap.size w W := by rw [hW]; exact (below_new w _).alloc (by simp) _
  have hsW : W.heap.size = w.heap.size + 2 := by rw [hW]; simp
  have hx0 : Box W w.heap.size (.slice a lo.length c) (.slice a' hi.length c') (.bool all) := by rw [hW]; exact (Box.new w _ _ _).alloc _
  have hx1 : Box W (w.heap.size + 1) (.slice none 0 0) (.slice none 0 0) (.bool false) := by
    rw [hW]
    have := Box.new (w.alloc (.cells #[.slice a lo.length c, .slice a' hi.length c', .bool all] 47)) (.slice none 0 0) (.slice none 0 0) (.bool false)
    simpa using this
  clear hW
  refine (refEmpty_any (HE0.out.here hbW)).mono ?_
  rintro _ w1 ⟨rfl, hb1⟩
  have hy0 := hx0.here hb1
  have hy1 := hx1.here hb1
  have HY0 : Hid (Box w1 w.heap.size (.slice a lo.length c) (.slice a' hi.length c') (.bool all)) := hy0
  have HY1 : Hid (Box w1 (w.heap.size + 1) (.slice none 0 0) (.slice none 0 0) (.bool false)) := hy1
  have HBW1 : Hid (Below w.heap.size w w1) := hbW.trans (hb1.mono (by rw [hsW]; omega))
  obtain ⟨k0, k1, k2⟩ := hy0.cells
  obtain ⟨r0, r1, r2⟩ := hy1.cells
  obtain ⟨g0, g1, g2⟩ := hy1.open
  clear hb1 hy0 hy1 hx0 hx1 hbW hsW
  cases he : Rg.empty ⟨lo, hi, all⟩ with
  | true =>
    have HF : Hid (Rg.form ⟨lo, hi, all⟩ = Rg.zero) := by simp [Hid, Rg.form, he]
    clear he
    go_wp2
    refine bodyPost_ret (ret_box rfl rfl (put3_box HY1.out)) rfl ⟨_, rfl, ?_, put3_below HBW1.out (by omega) _ _ _⟩
    rw [HF.out]
    exact NewRange.zero _ _
  | false =>
    cases all with
    | true =>
      have HF : Hid (Rg.form ⟨lo, hi, true⟩ = ⟨lo, [], true⟩) := by simp [Hid, Rg.form, he]
      clear he
      go_wp2_with fail
      refine (refCopy_any (HK1.out.here HBW1.out)).mono ?_
      rintro _ w2 ⟨u, rfl, hu, hb2⟩
      obtain ⟨a2, c2, rfl, _, _⟩ := hu.at.is
      have HU : Hid (NewKey w1.heap.size w2 (.slice a2 lo.length c2) lo) := hu
      have HB2 : Hid (Below w.heap.size w w2) := HBW1.out.trans (hb2.mono HBW1.out.size)
      have HZ1 : Hid (Box w2 (w.heap.size + 1) (.slice none 0 0) (.slice none 0 0) (.bool false)) := HY1.out.here hb2
      clear k0 k1 k2 r0 r1 r2 g0 g1 g2 hu hb2
      obtain ⟨r0, r1, r2⟩ := HZ1.out.cells
      obtain ⟨g0, g1, g2⟩ := HZ1.out.open
      go_wp2
      refine bodyPost_ret (ret_box rfl rfl (put3_box HZ1.out)) rfl ⟨_, rfl, ?_, put3_below HB2.out (by omega) _ _ _⟩
      rw [HF.out]
      exact ⟨_, _, rfl, (HU.out.mono HBW1.out.size).put3 HZ1.out _ _ _, NewKey.nil _ _, fun k _ h => by cases h⟩
    | false =>
      have HF : Hid (Rg.form ⟨lo, hi, false⟩ = ⟨lo, hi, false⟩) := by simp [Hid, Rg.form, he]
      clear he
      go_wp2_with fail
      go_region_held_law (fun W' => W'.cell? ⟨w.heap.size, 0, none⟩ = some (.slice a lo.length c) ∧ W'.cell? ⟨w.heap.size, 1, none⟩ = some (.slice a' hi.length c')) (first | go_keep | (constructor <;> assumption))
        (first
          | (go_at_call_of 69 (Value.slice a lo.length c); refine (refCopy_any ((HK1.out.here HBW1.out).here ((Below.refl _ w1).drew))).mono ?_
             rintro _ w2 ⟨u, rfl, hu, hb2⟩
             obtain ⟨a2, c2, rfl, _, _⟩ := hu.at.is
             have HU : Hid (NewKey w1.heap.size w2 (.slice a2 lo.length c2) lo) := hu
             have HB2 : Hid (Below w1.heap.size w1 w2) := ((Below.refl _ w1).drew).trans hb2
             have HBW2 : Hid (Below w.heap.size w w2) := HBW1.out.trans (HB2.out.mono HBW1.out.size)
             clear hu hb2
             obtain ⟨p0, p1, p2⟩ := (HY0.out.here HB2.out).cells
             obtain ⟨q0, q1, q2⟩ := (HY1.out.here HB2.out).cells
             obtain ⟨o0, o1, o2⟩ := (HY1.out.here HB2.out).open)
          | (go_at_call_of 69 (Value.slice a' hi.length c'); refine (refCopy_any (HK2.out.here HBW2.out)).mono ?_
             rintro _ w3 ⟨u, rfl, hu, hb2⟩
             obtain ⟨a3, c3, rfl, _, _⟩ := hu.at.is
             have HU3 : Hid (NewKey w2.heap.size w3 (.slice a3 hi.length c3) hi) := hu
             have HU2 : Hid (NewKey w1.heap.size w3 (.slice a2 lo.length c2) lo) := HU.out.here hb2
             have HB3 : Hid (Below w2.heap.size w2 w3) := hb2
             have HBW3 : Hid (Below w.heap.size w w3) := HBW2.out.trans (hb2.mono HBW2.out.size)
             have HZ1 : Hid (Box w3 (w.heap.size + 1) (.slice none 0 0) (.slice none 0 0) (.bool false)) := (HY1.out.here HB2.out).here hb2
             clear hu hb2
             obtain ⟨s0, s1, s2⟩ := ((HY0.out.here HB2.out).here HB3.out).cells
             obtain ⟨t0, t1, t2⟩ := HZ1.out.cells
             obtain ⟨n0, n1, n2⟩ := HZ1.out.open))
      go_wp2
      refine bodyPost_ret (ret_box rfl rfl (put3_box HZ1.out)) rfl ⟨_, rfl, ?_, put3_below HBW3.out (by omega) _ _ _⟩
      rw [HF.out]
      exact ⟨_, _, rfl, (HU2.out.mono HBW1.out.size).put3 HZ1.out _ _ _, (HU3.out.mono (Nat.le_trans HBW1.out.size HB2.out.size)).put3 HZ1.out _ _ _, HU.out.apart HU3.out (Nat.le_refl _)⟩
/-- What Form makes of two ranges that differ in an end that All hides. -/
theorem form_all (lo hi : Key) : Rg.form ⟨lo, hi, true⟩ = Rg.form ⟨lo, [], true⟩ := by simp [Rg.form, Rg.empty]
set_option maxHeartbeats 1600000 in
set_option maxRecDepth 100000 in
theorem refMeet_any {w : World} {v u : Value} {r o : Rg} (h : RangeAt w v r) (hu : RangeAt w u o) :
    Calls Try.prog 46 #[v, u] w fun e w' => ∃ v', e = .returned v' ∧ NewRange w.heap.size w' v' (r.meet o) ∧ Below w.heap.size w w' := by
  obtain ⟨v1, v2, rfl, h1, h2⟩ := h.in.is
  obtain ⟨u1, u2, rfl, h3, h4⟩ := hu.in.is
  obtain ⟨a1, c1, rfl⟩ := h1.form
  obtain ⟨a2, c2, rfl⟩ := h2.form
  obtain ⟨a3, c3, rfl⟩ := h3.form
  obtain ⟨a4, c4, rfl⟩ := h4.form
  have HK1 : Hid (KeyIn w.heap.size w (.slice a1 r.lo.length c1) r.lo) := h1
  have HK2 : Hid (KeyIn w.heap.size w (.slice a2 r.hi.length c2) r.hi) := h2
  have HK3 : Hid (KeyIn w.heap.size w (.slice a3 o.lo.length c3) o.lo) := h3
  have HK4 : Hid (KeyIn w.heap.size w (.slice a4 o.hi.length c4) o.hi) := h4
  clear h hu h1 h2 h3 h4
  obtain ⟨W, hW⟩ : ∃ W, W = ((w.alloc (.cells #[.slice a1 r.lo.length c1, .slice a2 r.hi.length c2, .bool r.all] 47)).alloc (.cells #[.slice a3 o.lo.length c3, .slice a4 o.hi.length c4, .bool o.all] 47)).alloc (.cells #[.slice none 0 0, .slice none 0 0, .bool false] 47) := ⟨_, rfl⟩
  have HBW : Hid (Below w.heap.size w W) := by rw [hW]; exact ((below_new w _).alloc (by simp) _).alloc (by simp; omega) _
  have hx0 : Box W w.heap.size (.slice a1 r.lo.length c1) (.slice a2 r.hi.length c2) (.bool r.all) := by rw [hW]; exact ((Box.new w _ _ _).alloc _).alloc _
  have hx1 : Box W (w.heap.size + 1) (.slice a3 o.lo.length c3) (.slice a4 o.hi.length c4) (.bool o.all) := by
    rw [hW]
    have := (Box.new (w.alloc (.cells #[.slice a1 r.lo.length c1, .slice a2 r.hi.length c2, .bool r.all] 47)) (.slice a3 o.lo.length c3) (.slice a4 o.hi.length c4) (.bool o.all)).alloc (.cells #[.slice none 0 0, .slice none 0 0, .bool false] 47)
    simpa using this
  have hx2 : Box W (w.heap.size + 2) (.slice none 0 0) (.slice none 0 0) (.bool false) := by
    rw [hW]
    have := Box.new ((w.alloc (.cells #[.slice a1 r.lo.length c1, .slice a2 r.hi.length c2, .bool r.all] 47)).alloc (.cells #[.slice a3 o.lo.length c3, .slice a4 o.hi.length c4, .bool o.all] 47)) (.slice none 0 0) (.slice none 0 0) (.bool false)
    simpa using this
  have HC1 := refLess_key ((HK1.out.at (Nat.le_refl _)).here HBW.out) ((HK3.out.at (Nat.le_refl _)).here HBW.out)
  have HX0 : Hid _ := hx0
  have HX1 : Hid _ := hx1
  have HX2 : Hid _ := hx2
  obtain ⟨k0, k1, k2⟩ := hx0.cells
  obtain ⟨m0, m1, m2⟩ := hx1.cells
  clear hx0 hx1 hx2
  go_enter Try.func46, Try.ntmps46
  go_upto_region 1 with fail
  rw [← hW]
  clear hW
  go_wp2_with fail
  refine HC1.mono ?_
  rintro e _ ⟨rfl, q, rfl⟩
  clear HC1
  obtain ⟨W1, hW1⟩ : ∃ W1, W1 = W.drewN q := ⟨_, rfl⟩
  rw [← hW1]
  have hbW : Below W.heap.size W W1 := by rw [hW1]; exact below_draws (Below.refl _ _) q
  have HB1 : Hid (Below w.heap.size w W1) := HBW.out.trans (hbW.mono HBW.out.size)
  have hx0 := HX0.out.here hbW
  have hx1 := HX1.out.here hbW
  have HX2' : Hid _ := HX2.out.here hbW
  clear hW1 hbW k0 k1 k2 m0 m1 m2
  obtain ⟨k0, k1, k2⟩ := hx0.cells
  obtain ⟨m0, m1, m2⟩ := hx1.cells
  clear hx0 hx1
  by_cases hlt : r.lo < o.lo
  case' pos =>
    have hd : decide (r.lo < o.lo) = true := decide_eq_true hlt
    have HKL : Hid (KeyIn w.heap.size w (.slice a3 o.lo.length c3) (Rg.meet0 r o).lo) := by rw [meet0_lo hlt]; exact HK3.out
    rw [hd]
  case' neg =>
    have hd : decide (r.lo < o.lo) = false := decide_eq_false hlt
    have HKL : Hid (KeyIn w.heap.size w (.slice a1 r.lo.length c1) (Rg.meet0 r o).lo) := by rw [meet0_lo' hlt]; exact HK1.out
    rw [hd]
  all_goals
    clear hd
    clear HX0 HX1 HX2
    cases hr : r.all with
    | true =>
      rw [hr] at k2
      cases ho : o.all with
      | true =>
        rw [ho] at m2
        have HB3 : Hid (Below w.heap.size w W1) := HB1.out
        have HZ2 : Hid (Box W1 (w.heap.size + 2) (.slice none 0 0) (.slice none 0 0) (.bool false)) := HX2'.out
        go_wp2_with fail
        have HEQ : Hid (Rg.form ⟨(Rg.meet0 r o).lo, [], true⟩ = r.meet o) := by rw [Hid, ← form_all _ (Rg.meet0 r o).hi]; simp [Rg.meet, Rg.meet0, hr, ho]
        refine (refForm_any (r := ⟨(Rg.meet0 r o).lo, [], true⟩) ⟨_, _, rfl, HKL.out.later rfl HB3.out, KeyAt.nil _⟩).mono ?_
        rintro e w4 ⟨v', rfl, hnew, hb4⟩
        rw [HEQ.out] at hnew
        obtain ⟨b1, d1, b2, d2, rfl⟩ := hnew.slices
        have HNEW : Hid _ := hnew
        have HB4 : Hid (Below w.heap.size w w4) := HB3.out.trans (hb4.mono HB3.out.size)
        have HZ4 : Hid (Box w4 (w.heap.size + 2) (.slice none 0 0) (.slice none 0 0) (.bool false)) := HZ2.out.here hb4
        obtain ⟨g0, g1, g2⟩ := HZ4.out.cells
        obtain ⟨j0, j1, j2⟩ := HZ4.out.open
        clear hnew hb4 k0 k1 k2 m0 m1 m2
        go_wp2
        exact bodyPost_ret (ret_box rfl rfl (put3_box HZ4.out)) rfl ⟨_, rfl, HNEW.out.put3 HZ4.out HB3.out.size _ _ _, put3_below HB4.out (by omega) _ _ _⟩
      | false =>
        rw [ho] at m2
        have HB3 : Hid (Below w.heap.size w W1) := HB1.out
        have HZ2 : Hid (Box W1 (w.heap.size + 2) (.slice none 0 0) (.slice none 0 0) (.bool false)) := HX2'.out
        go_wp2_with fail
        have HEQ : Hid (Rg.form ⟨(Rg.meet0 r o).lo, o.hi, false⟩ = r.meet o) := by simp [Hid, Rg.meet, Rg.meet0, hr, ho]
        refine (refForm_any (r := ⟨(Rg.meet0 r o).lo, o.hi, false⟩) ⟨_, _, rfl, HKL.out.later rfl HB3.out, HK4.out.later rfl HB3.out⟩).mono ?_
        rintro e w4 ⟨v', rfl, hnew, hb4⟩
        rw [HEQ.out] at hnew
        obtain ⟨b1, d1, b2, d2, rfl⟩ := hnew.slices
        have HNEW : Hid _ := hnew
        have HB4 : Hid (Below w.heap.size w w4) := HB3.out.trans (hb4.mono HB3.out.size)
        have HZ4 : Hid (Box w4 (w.heap.size + 2) (.slice none 0 0) (.slice none 0 0) (.bool false)) := HZ2.out.here hb4
        obtain ⟨g0, g1, g2⟩ := HZ4.out.cells
        obtain ⟨j0, j1, j2⟩ := HZ4.out.open
        clear hnew hb4 k0 k1 k2 m0 m1 m2
        go_wp2
        exact bodyPost_ret (ret_box rfl rfl (put3_box HZ4.out)) rfl ⟨_, rfl, HNEW.out.put3 HZ4.out HB3.out.size _ _ _, put3_below HB4.out (by omega) _ _ _⟩
    | false =>
      rw [hr] at k2
      cases ho : o.all with
      | true =>
        rw [ho] at m2
        have HB3 : Hid (Below w.heap.size w W1) := HB1.out
        have HZ2 : Hid (Box W1 (w.heap.size + 2) (.slice none 0 0) (.slice none 0 0) (.bool false)) := HX2'.out
        go_wp2_with fail
        have HEQ : Hid (Rg.form ⟨(Rg.meet0 r o).lo, r.hi, false⟩ = r.meet o) := by simp [Hid, Rg.meet, Rg.meet0, hr, ho]
        refine (refForm_any (r := ⟨(Rg.meet0 r o).lo, r.hi, false⟩) ⟨_, _, rfl, HKL.out.later rfl HB3.out, HK2.out.later rfl HB3.out⟩).mono ?_
        rintro e w4 ⟨v', rfl, hnew, hb4⟩
        rw [HEQ.out] at hnew
        obtain ⟨b1, d1, b2, d2, rfl⟩ := hnew.slices
        have HNEW : Hid _ := hnew
        have HB4 : Hid (Below w.heap.size w w4) := HB3.out.trans (hb4.mono HB3.out.size)
        have HZ4 : Hid (Box w4 (w.heap.size + 2) (.slice none 0 0) (.slice none 0 0) (.bool false)) := HZ2.out.here hb4
        obtain ⟨g0, g1, g2⟩ := HZ4.out.cells
        obtain ⟨j0, j1, j2⟩ := HZ4.out.open
        clear hnew hb4 k0 k1 k2 m0 m1 m2
        go_wp2
        exact bodyPost_ret (ret_box rfl rfl (put3_box HZ4.out)) rfl ⟨_, rfl, HNEW.out.put3 HZ4.out HB3.out.size _ _ _, put3_below HB4.out (by omega) _ _ _⟩
      | false =>
        rw [ho] at m2
        have HC2 := refLess_key (HK4.out.later rfl HB1.out) (HK2.out.later rfl HB1.out)
        go_wp2_with fail
        refine HC2.mono ?_
        rintro e _ ⟨rfl, q2, rfl⟩
        clear HC2
        have HB3 : Hid (Below w.heap.size w (W1.drewN q2)) := below_draws HB1.out q2
        have HZ2 : Hid (Box (W1.drewN q2) (w.heap.size + 2) (.slice none 0 0) (.slice none 0 0) (.bool false)) := ⟨HX2'.out.row⟩
        by_cases hlh : o.hi < r.hi
        · have hd : decide (o.hi < r.hi) = true := decide_eq_true hlh
          rw [hd]
          clear hd
          go_wp2_with fail
          have HEQ : Hid (Rg.form ⟨(Rg.meet0 r o).lo, o.hi, false⟩ = r.meet o) := by simp [Hid, Rg.meet, Rg.meet0, hr, ho, hlh]
          refine (refForm_any (r := ⟨(Rg.meet0 r o).lo, o.hi, false⟩) ⟨_, _, rfl, HKL.out.later rfl HB3.out, HK4.out.later rfl HB3.out⟩).mono ?_
          rintro e w4 ⟨v', rfl, hnew, hb4⟩
          rw [HEQ.out] at hnew
          obtain ⟨b1, d1, b2, d2, rfl⟩ := hnew.slices
          have HNEW : Hid _ := hnew
          have HB4 : Hid (Below w.heap.size w w4) := HB3.out.trans (hb4.mono HB3.out.size)
          have HZ4 : Hid (Box w4 (w.heap.size + 2) (.slice none 0 0) (.slice none 0 0) (.bool false)) := HZ2.out.here hb4
          obtain ⟨g0, g1, g2⟩ := HZ4.out.cells
          obtain ⟨j0, j1, j2⟩ := HZ4.out.open
          clear hnew hb4 k0 k1 k2 m0 m1 m2
          go_wp2
          exact bodyPost_ret (ret_box rfl rfl (put3_box HZ4.out)) rfl ⟨_, rfl, HNEW.out.put3 HZ4.out HB3.out.size _ _ _, put3_below HB4.out (by omega) _ _ _⟩
        · have hd : decide (o.hi < r.hi) = false := decide_eq_false hlh
          rw [hd]
          clear hd
          go_wp2_with fail
          have HEQ : Hid (Rg.form ⟨(Rg.meet0 r o).lo, r.hi, false⟩ = r.meet o) := by simp [Hid, Rg.meet, Rg.meet0, hr, ho, hlh]
          refine (refForm_any (r := ⟨(Rg.meet0 r o).lo, r.hi, false⟩) ⟨_, _, rfl, HKL.out.later rfl HB3.out, HK2.out.later rfl HB3.out⟩).mono ?_
          rintro e w4 ⟨v', rfl, hnew, hb4⟩
          rw [HEQ.out] at hnew
          obtain ⟨b1, d1, b2, d2, rfl⟩ := hnew.slices
          have HNEW : Hid _ := hnew
          have HB4 : Hid (Below w.heap.size w w4) := HB3.out.trans (hb4.mono HB3.out.size)
          have HZ4 : Hid (Box w4 (w.heap.size + 2) (.slice none 0 0) (.slice none 0 0) (.bool false)) := HZ2.out.here hb4
          obtain ⟨g0, g1, g2⟩ := HZ4.out.cells
          obtain ⟨j0, j1, j2⟩ := HZ4.out.open
          clear hnew hb4 k0 k1 k2 m0 m1 m2
          go_wp2
          exact bodyPost_ret (ret_box rfl rfl (put3_box HZ4.out)) rfl ⟨_, rfl, HNEW.out.put3 HZ4.out HB3.out.size _ _ _, put3_below HB4.out (by omega) _ _ _⟩
end Go.Proofs.Ytaehchijeinloaa
