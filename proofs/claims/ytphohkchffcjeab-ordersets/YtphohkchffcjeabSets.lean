/- The law OrderSets's walk. -/
import Derived.Test.YtphohkchffcjeabLawForm
import Derived.Test.YtphohkchffcjeabAlive
namespace Go.Proofs.Ytphohkchffcjeab
open Go.RowKit

/-- A block that holds a range, and what that is. -/
structure Has4 (w : World) (b : Nat) (x y z : Value) (r : Rg) : Prop where
  box : Box w b x y z
  rng : RangeAt w (.agg #[x, y, z]) r
theorem Has4.here {w w' : World} {b : Nat} {x y z : Value} {r : Rg} (h : Has4 w b x y z r) (hb : Below w.heap.size w w') : Has4 w' b x y z r := ⟨h.box.here hb, h.rng.here hb⟩
theorem Has4.new {w : World} {x y z : Value} {r : Rg} (h : RangeAt w (.agg #[x, y, z]) r) : Has4 (w.alloc (.cells #[x, y, z] 24)) w.heap.size x y z r := ⟨Box.new _ _ _ _, h.here (below_new _ _)⟩
theorem Has4.new' {w : World} {x y z : Value} {r : Rg} {n : Nat} (hn : w.heap.size = n) (h : RangeAt w (.agg #[x, y, z]) r) : Has4 (w.alloc (.cells #[x, y, z] 24)) n x y z r := by subst hn; exact Has4.new h

set_option maxHeartbeats 6400000 in
set_option maxRecDepth 100000 in
theorem sets_walk {w : World} {v u t : Value} {r o : Rg} {k : Key} (h : RangeAt w v r) (hu : RangeAt w u o) (ht : KeyAt w t k) :
    Calls Try.prog 3 #[v, u, t] w fun e w' => e = .returned (.bool true) ∧ Below w.heap.size w w' := by
  obtain ⟨a1, c1, a2, c2, rfl⟩ := h.slices
  obtain ⟨a3, c3, a4, c4, rfl⟩ := hu.slices
  obtain ⟨a5, c5, rfl, _⟩ := ht.is
  obtain ⟨W, hW⟩ : ∃ W, W = (w.alloc (.cells #[.slice a1 r.lo.length c1, .slice a2 r.hi.length c2, .bool r.all] 24)).alloc (.cells #[.slice a3 o.lo.length c3, .slice a4 o.hi.length c4, .bool o.all] 24) := ⟨_, rfl⟩
  have HBa0 : Hid (Below w.heap.size w W) := by rw [hW]; exact (below_new w _).alloc (by simp) _
  have HAa : Hid (Has4 W w.heap.size (.slice a1 r.lo.length c1) (.slice a2 r.hi.length c2) (.bool r.all) r) := by rw [hW]; exact (Has4.new h).here (below_new _ _)
  have HOa : Hid (Has4 W (w.heap.size + 1) (.slice a3 o.lo.length c3) (.slice a4 o.hi.length c4) (.bool o.all) o) := by rw [hW]; exact Has4.new' (by simp) (hu.here (below_new _ _))
  have HKa : Hid (KeyAt W (.slice a5 k.length c5) k) := ht.here HBa0.out
  clear h hu ht
  go_enter Try.func3, Try.ntmps3
  go_upto_region 1 with fail
  rw [← hW]
  clear hW
  go_wp2_with fail
  refine (awake_any W).mono ?_
  rintro e w1 ⟨rfl, hb⟩
  have HBb0 : Hid (Below w.heap.size w w1) := HBa0.out.trans ((hb).mono HBa0.out.size)
  have HAb : Hid (Has4 w1 w.heap.size (.slice a1 r.lo.length c1) (.slice a2 r.hi.length c2) (.bool r.all) r) := HAa.out.here (hb)
  have HOb : Hid (Has4 w1 (w.heap.size + 1) (.slice a3 o.lo.length c3) (.slice a4 o.hi.length c4) (.bool o.all) o) := HOa.out.here (hb)
  have HKb : Hid (KeyAt w1 (.slice a5 k.length c5) k) := HKa.out.here (hb)
  clear hb
  obtain ⟨k0, k1, k2⟩ := HAb.out.box.cells
  obtain ⟨m0, m1, m2⟩ := HOb.out.box.cells
  go_wp2_with fail
  refine (meet_any HAb.out.rng HOb.out.rng).mono ?_
  rintro e w2 ⟨x, rfl, hx, hb⟩
  obtain ⟨b1, d1, b2, d2, rfl⟩ := hx.slices
  have HBc0 : Hid (Below w.heap.size w w2) := HBb0.out.trans ((hb).mono HBb0.out.size)
  have HAc : Hid (Has4 w2 w.heap.size (.slice a1 r.lo.length c1) (.slice a2 r.hi.length c2) (.bool r.all) r) := HAb.out.here (hb)
  have HOc : Hid (Has4 w2 (w.heap.size + 1) (.slice a3 o.lo.length c3) (.slice a4 o.hi.length c4) (.bool o.all) o) := HOb.out.here (hb)
  have HKc : Hid (KeyAt w2 (.slice a5 k.length c5) k) := HKb.out.here (hb)
  have HMN : Hid (RangeAt w2 (.agg #[.slice b1 (r.meet o).lo.length d1, .slice b2 (r.meet o).hi.length d2, .bool (r.meet o).all]) (r.meet o)) := hx.at
  clear hb hx k0 k1 k2 m0 m1 m2
  go_upto_region 3 with fail
  obtain ⟨V2, hV2⟩ : ∃ V2, V2 = w2.alloc (.cells #[.slice b1 (r.meet o).lo.length d1, .slice b2 (r.meet o).hi.length d2, .bool (r.meet o).all] 24) := ⟨_, rfl⟩
  rw [← hV2]
  have hb : Below w2.heap.size w2 V2 := by rw [hV2]; exact below_new _ _
  have HBd0 : Hid (Below w.heap.size w V2) := HBc0.out.trans ((hb).mono HBc0.out.size)
  have HAd : Hid (Has4 V2 w.heap.size (.slice a1 r.lo.length c1) (.slice a2 r.hi.length c2) (.bool r.all) r) := HAc.out.here (hb)
  have HOd : Hid (Has4 V2 (w.heap.size + 1) (.slice a3 o.lo.length c3) (.slice a4 o.hi.length c4) (.bool o.all) o) := HOc.out.here (hb)
  have HKd : Hid (KeyAt V2 (.slice a5 k.length c5) k) := HKc.out.here (hb)
  have HMd : Hid (Has4 V2 w2.heap.size (.slice b1 (r.meet o).lo.length d1) (.slice b2 (r.meet o).hi.length d2) (.bool (r.meet o).all) (r.meet o)) := by rw [hV2]; exact Has4.new HMN.out
  clear hb hV2
  obtain ⟨k0, k1, k2⟩ := HAd.out.box.cells
  obtain ⟨m0, m1, m2⟩ := HOd.out.box.cells
  go_wp2_with fail
  refine (minus_any HAd.out.rng HOd.out.rng).mono ?_
  rintro e w3 ⟨x, y, rfl, hx, hy, _, hb⟩
  obtain ⟨b3, d3, b4, d4, rfl⟩ := hx.slices
  obtain ⟨b5, d5, b6, d6, rfl⟩ := hy.slices
  have HBe0 : Hid (Below w.heap.size w w3) := HBd0.out.trans ((hb).mono HBd0.out.size)
  have HAe : Hid (Has4 w3 w.heap.size (.slice a1 r.lo.length c1) (.slice a2 r.hi.length c2) (.bool r.all) r) := HAd.out.here (hb)
  have HOe : Hid (Has4 w3 (w.heap.size + 1) (.slice a3 o.lo.length c3) (.slice a4 o.hi.length c4) (.bool o.all) o) := HOd.out.here (hb)
  have HMe : Hid (Has4 w3 w2.heap.size (.slice b1 (r.meet o).lo.length d1) (.slice b2 (r.meet o).hi.length d2) (.bool (r.meet o).all) (r.meet o)) := HMd.out.here (hb)
  have HKe : Hid (KeyAt w3 (.slice a5 k.length c5) k) := HKd.out.here (hb)
  have HXN : Hid (RangeAt w3 (.agg #[.slice b3 (r.ahead o).lo.length d3, .slice b4 (r.ahead o).hi.length d4, .bool (r.ahead o).all]) (r.ahead o)) := hx.at
  have HYN : Hid (RangeAt w3 (.agg #[.slice b5 (r.behind o).lo.length d5, .slice b6 (r.behind o).hi.length d6, .bool (r.behind o).all]) (r.behind o)) := hy.at
  clear hb hx hy k0 k1 k2 m0 m1 m2
  go_upto_region 4 with fail
  obtain ⟨V3, hV3⟩ : ∃ V3, V3 = (w3.alloc (.cells #[.slice b3 (r.ahead o).lo.length d3, .slice b4 (r.ahead o).hi.length d4, .bool (r.ahead o).all] 24)).alloc (.cells #[.slice b5 (r.behind o).lo.length d5, .slice b6 (r.behind o).hi.length d6, .bool (r.behind o).all] 24) := ⟨_, rfl⟩
  rw [← hV3]
  have hb : Below w3.heap.size w3 V3 := by rw [hV3]; exact (below_new _ _).alloc (by simp) _
  have HBf0 : Hid (Below w.heap.size w V3) := HBe0.out.trans ((hb).mono HBe0.out.size)
  have HAf : Hid (Has4 V3 w.heap.size (.slice a1 r.lo.length c1) (.slice a2 r.hi.length c2) (.bool r.all) r) := HAe.out.here (hb)
  have HOf : Hid (Has4 V3 (w.heap.size + 1) (.slice a3 o.lo.length c3) (.slice a4 o.hi.length c4) (.bool o.all) o) := HOe.out.here (hb)
  have HMf : Hid (Has4 V3 w2.heap.size (.slice b1 (r.meet o).lo.length d1) (.slice b2 (r.meet o).hi.length d2) (.bool (r.meet o).all) (r.meet o)) := HMe.out.here (hb)
  have HKf : Hid (KeyAt V3 (.slice a5 k.length c5) k) := HKe.out.here (hb)
  have HXf : Hid (Has4 V3 w3.heap.size (.slice b3 (r.ahead o).lo.length d3) (.slice b4 (r.ahead o).hi.length d4) (.bool (r.ahead o).all) (r.ahead o)) := by rw [hV3]; exact (Has4.new HXN.out).here (below_new _ _)
  have HYf : Hid (Has4 V3 (w3.heap.size + 1) (.slice b5 (r.behind o).lo.length d5) (.slice b6 (r.behind o).hi.length d6) (.bool (r.behind o).all) (r.behind o)) := by rw [hV3]; exact Has4.new' (by simp) (HYN.out.here (below_new _ _))
  clear hb hV3
  have HF : Hid ((r.meet o).has k = (r.has k && o.has k) ∧ ((r.ahead o).has k || (r.behind o).has k) = (r.has k && !o.has k) ∧ ((r.ahead o).has k && (r.behind o).has k) = false) := ⟨Rg.has_meet r o k, Rg.has_parts r o k⟩
  have HIN : Hid (r.inside o = true → r.has k = true → o.has k = true) := fun h1 h2 => Rg.inside_has h1 k h2
  have HEM : Hid (r.empty = true → r.has k = false) := fun h1 => by
    cases h2 : r.has k with
    | false => rfl
    | true => have := Rg.not_empty r k h2; rw [h1] at this; cases this
  have HOW : Hid ((r.meet r).has k = r.has k) := by rw [Hid, Rg.has_meet, Bool.and_self]
  obtain ⟨pA, hpA⟩ : ∃ b, b = r.has k := ⟨_, rfl⟩
  obtain ⟨pB, hpB⟩ : ∃ b, b = o.has k := ⟨_, rfl⟩
  obtain ⟨pX, hpX⟩ : ∃ b, b = (r.ahead o).has k := ⟨_, rfl⟩
  obtain ⟨pY, hpY⟩ : ∃ b, b = (r.behind o).has k := ⟨_, rfl⟩
  rw [← hpA, ← hpB, ← hpX, ← hpY] at HF
  rw [← hpA, ← hpB] at HIN
  rw [← hpA] at HEM HOW
  have HPA : Hid (r.has k = pA) := hpA.symm
  have HPB : Hid (o.has k = pB) := hpB.symm
  have HPX : Hid ((r.ahead o).has k = pX) := hpX.symm
  have HPY : Hid ((r.behind o).has k = pY) := hpY.symm
  have HPM : Hid ((r.meet o).has k = (pA && pB)) := HF.out.1
  clear hpA hpB hpX hpY
  obtain ⟨k0, k1, k2⟩ := HAf.out.box.cells
  go_wp2_with fail
  refine (has_any HAf.out.rng HKf.out).mono ?_
  rintro e w4 ⟨rfl, hb⟩
  rw [HPA.out]
  have HBg0 : Hid (Below w.heap.size w w4) := HBf0.out.trans ((hb).mono HBf0.out.size)
  have HAg : Hid (Has4 w4 w.heap.size (.slice a1 r.lo.length c1) (.slice a2 r.hi.length c2) (.bool r.all) r) := HAf.out.here (hb)
  have HOg : Hid (Has4 w4 (w.heap.size + 1) (.slice a3 o.lo.length c3) (.slice a4 o.hi.length c4) (.bool o.all) o) := HOf.out.here (hb)
  have HMg : Hid (Has4 w4 w2.heap.size (.slice b1 (r.meet o).lo.length d1) (.slice b2 (r.meet o).hi.length d2) (.bool (r.meet o).all) (r.meet o)) := HMf.out.here (hb)
  have HXg : Hid (Has4 w4 w3.heap.size (.slice b3 (r.ahead o).lo.length d3) (.slice b4 (r.ahead o).hi.length d4) (.bool (r.ahead o).all) (r.ahead o)) := HXf.out.here (hb)
  have HYg : Hid (Has4 w4 (w3.heap.size + 1) (.slice b5 (r.behind o).lo.length d5) (.slice b6 (r.behind o).hi.length d6) (.bool (r.behind o).all) (r.behind o)) := HYf.out.here (hb)
  have HKg : Hid (KeyAt w4 (.slice a5 k.length c5) k) := HKf.out.here (hb)
  clear hb k0 k1 k2
  obtain ⟨k0, k1, k2⟩ := HOg.out.box.cells
  go_wp2_with fail
  refine (has_any HOg.out.rng HKg.out).mono ?_
  rintro e w5 ⟨rfl, hb⟩
  rw [HPB.out]
  have HBh0 : Hid (Below w.heap.size w w5) := HBg0.out.trans ((hb).mono HBg0.out.size)
  have HAh : Hid (Has4 w5 w.heap.size (.slice a1 r.lo.length c1) (.slice a2 r.hi.length c2) (.bool r.all) r) := HAg.out.here (hb)
  have HOh : Hid (Has4 w5 (w.heap.size + 1) (.slice a3 o.lo.length c3) (.slice a4 o.hi.length c4) (.bool o.all) o) := HOg.out.here (hb)
  have HMh : Hid (Has4 w5 w2.heap.size (.slice b1 (r.meet o).lo.length d1) (.slice b2 (r.meet o).hi.length d2) (.bool (r.meet o).all) (r.meet o)) := HMg.out.here (hb)
  have HXh : Hid (Has4 w5 w3.heap.size (.slice b3 (r.ahead o).lo.length d3) (.slice b4 (r.ahead o).hi.length d4) (.bool (r.ahead o).all) (r.ahead o)) := HXg.out.here (hb)
  have HYh : Hid (Has4 w5 (w3.heap.size + 1) (.slice b5 (r.behind o).lo.length d5) (.slice b6 (r.behind o).hi.length d6) (.bool (r.behind o).all) (r.behind o)) := HYg.out.here (hb)
  have HKh : Hid (KeyAt w5 (.slice a5 k.length c5) k) := HKg.out.here (hb)
  clear hb k0 k1 k2
  obtain ⟨k0, k1, k2⟩ := HMh.out.box.cells
  go_wp2_with fail
  refine (has_any HMh.out.rng HKh.out).mono ?_
  rintro e w6 ⟨rfl, hb⟩
  rw [HPM.out]
  have HBi0 : Hid (Below w.heap.size w w6) := HBh0.out.trans ((hb).mono HBh0.out.size)
  have HAi : Hid (Has4 w6 w.heap.size (.slice a1 r.lo.length c1) (.slice a2 r.hi.length c2) (.bool r.all) r) := HAh.out.here (hb)
  have HOi : Hid (Has4 w6 (w.heap.size + 1) (.slice a3 o.lo.length c3) (.slice a4 o.hi.length c4) (.bool o.all) o) := HOh.out.here (hb)
  have HMi : Hid (Has4 w6 w2.heap.size (.slice b1 (r.meet o).lo.length d1) (.slice b2 (r.meet o).hi.length d2) (.bool (r.meet o).all) (r.meet o)) := HMh.out.here (hb)
  have HXi : Hid (Has4 w6 w3.heap.size (.slice b3 (r.ahead o).lo.length d3) (.slice b4 (r.ahead o).hi.length d4) (.bool (r.ahead o).all) (r.ahead o)) := HXh.out.here (hb)
  have HYi : Hid (Has4 w6 (w3.heap.size + 1) (.slice b5 (r.behind o).lo.length d5) (.slice b6 (r.behind o).hi.length d6) (.bool (r.behind o).all) (r.behind o)) := HYh.out.here (hb)
  have HKi : Hid (KeyAt w6 (.slice a5 k.length c5) k) := HKh.out.here (hb)
  clear hb k0 k1 k2
  obtain ⟨k0, k1, k2⟩ := HXi.out.box.cells
  go_wp2_with fail
  refine (has_any HXi.out.rng HKi.out).mono ?_
  rintro e w7 ⟨rfl, hb⟩
  rw [HPX.out]
  have HBj0 : Hid (Below w.heap.size w w7) := HBi0.out.trans ((hb).mono HBi0.out.size)
  have HAj : Hid (Has4 w7 w.heap.size (.slice a1 r.lo.length c1) (.slice a2 r.hi.length c2) (.bool r.all) r) := HAi.out.here (hb)
  have HOj : Hid (Has4 w7 (w.heap.size + 1) (.slice a3 o.lo.length c3) (.slice a4 o.hi.length c4) (.bool o.all) o) := HOi.out.here (hb)
  have HMj : Hid (Has4 w7 w2.heap.size (.slice b1 (r.meet o).lo.length d1) (.slice b2 (r.meet o).hi.length d2) (.bool (r.meet o).all) (r.meet o)) := HMi.out.here (hb)
  have HXj : Hid (Has4 w7 w3.heap.size (.slice b3 (r.ahead o).lo.length d3) (.slice b4 (r.ahead o).hi.length d4) (.bool (r.ahead o).all) (r.ahead o)) := HXi.out.here (hb)
  have HYj : Hid (Has4 w7 (w3.heap.size + 1) (.slice b5 (r.behind o).lo.length d5) (.slice b6 (r.behind o).hi.length d6) (.bool (r.behind o).all) (r.behind o)) := HYi.out.here (hb)
  have HKj : Hid (KeyAt w7 (.slice a5 k.length c5) k) := HKi.out.here (hb)
  clear hb k0 k1 k2
  obtain ⟨k0, k1, k2⟩ := HYj.out.box.cells
  go_wp2_with fail
  refine (has_any HYj.out.rng HKj.out).mono ?_
  rintro e w8 ⟨rfl, hb⟩
  rw [HPY.out]
  have HBk0 : Hid (Below w.heap.size w w8) := HBj0.out.trans ((hb).mono HBj0.out.size)
  have HAk : Hid (Has4 w8 w.heap.size (.slice a1 r.lo.length c1) (.slice a2 r.hi.length c2) (.bool r.all) r) := HAj.out.here (hb)
  have HOk : Hid (Has4 w8 (w.heap.size + 1) (.slice a3 o.lo.length c3) (.slice a4 o.hi.length c4) (.bool o.all) o) := HOj.out.here (hb)
  have HMk : Hid (Has4 w8 w2.heap.size (.slice b1 (r.meet o).lo.length d1) (.slice b2 (r.meet o).hi.length d2) (.bool (r.meet o).all) (r.meet o)) := HMj.out.here (hb)
  have HXk : Hid (Has4 w8 w3.heap.size (.slice b3 (r.ahead o).lo.length d3) (.slice b4 (r.ahead o).hi.length d4) (.bool (r.ahead o).all) (r.ahead o)) := HXj.out.here (hb)
  have HYk : Hid (Has4 w8 (w3.heap.size + 1) (.slice b5 (r.behind o).lo.length d5) (.slice b6 (r.behind o).hi.length d6) (.bool (r.behind o).all) (r.behind o)) := HYj.out.here (hb)
  have HKk : Hid (KeyAt w8 (.slice a5 k.length c5) k) := HKj.out.here (hb)
  clear hb k0 k1 k2
  go_upto_region 9 with fail
  go_cut [76] (fun s76 wx => s76 = .bool false ∧ wx = w8)
  case first =>
    have hf := HF.out.2
    cases pA <;> cases pB <;> cases pX <;> cases pY
    all_goals
      first
        | exact absurd hf (by decide)
        | (clear hf
           go_wp2_with fail
           go_meet
           exact ⟨rfl, rfl⟩)
  case rest =>
    obtain ⟨rfl, hwc⟩ := hcut
    rw [hwc]
    clear hwc
    obtain ⟨k0, k1, k2⟩ := HAk.out.box.cells
    obtain ⟨m0, m1, m2⟩ := HOk.out.box.cells
    go_upto_region 11 with fail
    go_cut [93] (fun s93 wx => s93 = .bool false ∧ Below w8.heap.size w8 wx)
    case first =>
      have hin := HIN.out
      have hem := HEM.out
      have HE := fun (W : World) (hb : Below w8.heap.size w8 W) => empty_any (HAk.out.rng.here hb)
      go_wp2_with fail
      refine (inside_any HAk.out.rng HOk.out.rng).mono ?_
      rintro e w9 ⟨rfl, hb⟩
      have HB9 : Hid (Below w8.heap.size w8 w9) := hb
      clear k0 k1 k2 m0 m1 m2
      obtain ⟨k0, k1, k2⟩ := (HAk.out.here hb).box.cells
      clear hb
      generalize r.inside o = I at hin
      cases I <;> cases pA <;> cases pB
      all_goals
        first
          | exact absurd (hin rfl rfl) (by decide)
          | (clear hin
             go_wp2_with fail
             refine (HE w9 HB9.out).mono ?_
             rintro e w10 ⟨rfl, hb⟩
             have HB10 : Hid (Below w8.heap.size w8 w10) := HB9.out.trans (hb.mono HB9.out.size)
             clear hb HE
             generalize r.empty = EE at hem
             cases EE
             all_goals
               first
                 | exact absurd (hem rfl) (by decide)
                 | (clear hem
                    go_wp2_with fail
                    go_meet
                    exact ⟨rfl, HB10.out⟩))
    case rest =>
      obtain ⟨rfl, hbc⟩ := hcut
      have HBl0 : Hid (Below w.heap.size w wc) := HBk0.out.trans ((hbc).mono HBk0.out.size)
      have HAl : Hid (Has4 wc w.heap.size (.slice a1 r.lo.length c1) (.slice a2 r.hi.length c2) (.bool r.all) r) := HAk.out.here (hbc)
      have HOl : Hid (Has4 wc (w.heap.size + 1) (.slice a3 o.lo.length c3) (.slice a4 o.hi.length c4) (.bool o.all) o) := HOk.out.here (hbc)
      have HMl : Hid (Has4 wc w2.heap.size (.slice b1 (r.meet o).lo.length d1) (.slice b2 (r.meet o).hi.length d2) (.bool (r.meet o).all) (r.meet o)) := HMk.out.here (hbc)
      have HXl : Hid (Has4 wc w3.heap.size (.slice b3 (r.ahead o).lo.length d3) (.slice b4 (r.ahead o).hi.length d4) (.bool (r.ahead o).all) (r.ahead o)) := HXk.out.here (hbc)
      have HYl : Hid (Has4 wc (w3.heap.size + 1) (.slice b5 (r.behind o).lo.length d5) (.slice b6 (r.behind o).hi.length d6) (.bool (r.behind o).all) (r.behind o)) := HYk.out.here (hbc)
      have HKl : Hid (KeyAt wc (.slice a5 k.length c5) k) := HKk.out.here (hbc)
      clear hbc k0 k1 k2 m0 m1 m2
      obtain ⟨k0, k1, k2⟩ := HAl.out.box.cells
      obtain ⟨m0, m1, m2⟩ := HOl.out.box.cells
      go_wp2_with fail
      refine (meet_any HOl.out.rng HAl.out.rng).mono ?_
      rintro e wd ⟨x, rfl, hx, hb⟩
      obtain ⟨e1, f1, e2, f2, rfl⟩ := hx.slices
      have HBm0 : Hid (Below w.heap.size w wd) := HBl0.out.trans ((hb).mono HBl0.out.size)
      have HAm : Hid (Has4 wd w.heap.size (.slice a1 r.lo.length c1) (.slice a2 r.hi.length c2) (.bool r.all) r) := HAl.out.here (hb)
      have HOm : Hid (Has4 wd (w.heap.size + 1) (.slice a3 o.lo.length c3) (.slice a4 o.hi.length c4) (.bool o.all) o) := HOl.out.here (hb)
      have HMm : Hid (Has4 wd w2.heap.size (.slice b1 (r.meet o).lo.length d1) (.slice b2 (r.meet o).hi.length d2) (.bool (r.meet o).all) (r.meet o)) := HMl.out.here (hb)
      have HXm : Hid (Has4 wd w3.heap.size (.slice b3 (r.ahead o).lo.length d3) (.slice b4 (r.ahead o).hi.length d4) (.bool (r.ahead o).all) (r.ahead o)) := HXl.out.here (hb)
      have HYm : Hid (Has4 wd (w3.heap.size + 1) (.slice b5 (r.behind o).lo.length d5) (.slice b6 (r.behind o).hi.length d6) (.bool (r.behind o).all) (r.behind o)) := HYl.out.here (hb)
      have HKm : Hid (KeyAt wd (.slice a5 k.length c5) k) := HKl.out.here (hb)
      have HTN : Hid (RangeAt wd (.agg #[.slice e1 (o.meet r).lo.length f1, .slice e2 (o.meet r).hi.length f2, .bool (o.meet r).all]) (o.meet r)) := hx.at
      clear hb hx k0 k1 k2 m0 m1 m2
      go_upto_region 14 with fail
      obtain ⟨we, hwe⟩ : ∃ we, we = wd.alloc (.cells #[.slice e1 (o.meet r).lo.length f1, .slice e2 (o.meet r).hi.length f2, .bool (o.meet r).all] 24) := ⟨_, rfl⟩
      rw [← hwe]
      have hb : Below wd.heap.size wd we := by rw [hwe]; exact below_new _ _
      have HBn0 : Hid (Below w.heap.size w we) := HBm0.out.trans ((hb).mono HBm0.out.size)
      have HAn : Hid (Has4 we w.heap.size (.slice a1 r.lo.length c1) (.slice a2 r.hi.length c2) (.bool r.all) r) := HAm.out.here (hb)
      have HOn : Hid (Has4 we (w.heap.size + 1) (.slice a3 o.lo.length c3) (.slice a4 o.hi.length c4) (.bool o.all) o) := HOm.out.here (hb)
      have HMn : Hid (Has4 we w2.heap.size (.slice b1 (r.meet o).lo.length d1) (.slice b2 (r.meet o).hi.length d2) (.bool (r.meet o).all) (r.meet o)) := HMm.out.here (hb)
      have HXn : Hid (Has4 we w3.heap.size (.slice b3 (r.ahead o).lo.length d3) (.slice b4 (r.ahead o).hi.length d4) (.bool (r.ahead o).all) (r.ahead o)) := HXm.out.here (hb)
      have HYn : Hid (Has4 we (w3.heap.size + 1) (.slice b5 (r.behind o).lo.length d5) (.slice b6 (r.behind o).hi.length d6) (.bool (r.behind o).all) (r.behind o)) := HYm.out.here (hb)
      have HKn : Hid (KeyAt we (.slice a5 k.length c5) k) := HKm.out.here (hb)
      have HTn : Hid (Has4 we wd.heap.size (.slice e1 (o.meet r).lo.length f1) (.slice e2 (o.meet r).hi.length f2) (.bool (o.meet r).all) (o.meet r)) := by rw [hwe]; exact Has4.new HTN.out
      clear hb hwe
      obtain ⟨k0, k1, k2⟩ := HAn.out.box.cells
      go_wp2_with fail
      refine (meet_any HAn.out.rng HAn.out.rng).mono ?_
      rintro e wf ⟨x, rfl, hx, hb⟩
      obtain ⟨e3, f3, e4, f4, rfl⟩ := hx.slices
      have HBo0 : Hid (Below w.heap.size w wf) := HBn0.out.trans ((hb).mono HBn0.out.size)
      have HAo : Hid (Has4 wf w.heap.size (.slice a1 r.lo.length c1) (.slice a2 r.hi.length c2) (.bool r.all) r) := HAn.out.here (hb)
      have HOo : Hid (Has4 wf (w.heap.size + 1) (.slice a3 o.lo.length c3) (.slice a4 o.hi.length c4) (.bool o.all) o) := HOn.out.here (hb)
      have HMo : Hid (Has4 wf w2.heap.size (.slice b1 (r.meet o).lo.length d1) (.slice b2 (r.meet o).hi.length d2) (.bool (r.meet o).all) (r.meet o)) := HMn.out.here (hb)
      have HXo : Hid (Has4 wf w3.heap.size (.slice b3 (r.ahead o).lo.length d3) (.slice b4 (r.ahead o).hi.length d4) (.bool (r.ahead o).all) (r.ahead o)) := HXn.out.here (hb)
      have HYo : Hid (Has4 wf (w3.heap.size + 1) (.slice b5 (r.behind o).lo.length d5) (.slice b6 (r.behind o).hi.length d6) (.bool (r.behind o).all) (r.behind o)) := HYn.out.here (hb)
      have HTo : Hid (Has4 wf wd.heap.size (.slice e1 (o.meet r).lo.length f1) (.slice e2 (o.meet r).hi.length f2) (.bool (o.meet r).all) (o.meet r)) := HTn.out.here (hb)
      have HKo : Hid (KeyAt wf (.slice a5 k.length c5) k) := HKn.out.here (hb)
      have HSN : Hid (RangeAt wf (.agg #[.slice e3 (r.meet r).lo.length f3, .slice e4 (r.meet r).hi.length f4, .bool (r.meet r).all]) (r.meet r)) := hx.at
      clear hb hx k0 k1 k2
      go_upto_region 15 with fail
      obtain ⟨wg, hwg⟩ : ∃ wg, wg = wf.alloc (.cells #[.slice e3 (r.meet r).lo.length f3, .slice e4 (r.meet r).hi.length f4, .bool (r.meet r).all] 24) := ⟨_, rfl⟩
      rw [← hwg]
      have hb : Below wf.heap.size wf wg := by rw [hwg]; exact below_new _ _
      have HBp0 : Hid (Below w.heap.size w wg) := HBo0.out.trans ((hb).mono HBo0.out.size)
      have HAp : Hid (Has4 wg w.heap.size (.slice a1 r.lo.length c1) (.slice a2 r.hi.length c2) (.bool r.all) r) := HAo.out.here (hb)
      have HOp : Hid (Has4 wg (w.heap.size + 1) (.slice a3 o.lo.length c3) (.slice a4 o.hi.length c4) (.bool o.all) o) := HOo.out.here (hb)
      have HMp : Hid (Has4 wg w2.heap.size (.slice b1 (r.meet o).lo.length d1) (.slice b2 (r.meet o).hi.length d2) (.bool (r.meet o).all) (r.meet o)) := HMo.out.here (hb)
      have HXp : Hid (Has4 wg w3.heap.size (.slice b3 (r.ahead o).lo.length d3) (.slice b4 (r.ahead o).hi.length d4) (.bool (r.ahead o).all) (r.ahead o)) := HXo.out.here (hb)
      have HYp : Hid (Has4 wg (w3.heap.size + 1) (.slice b5 (r.behind o).lo.length d5) (.slice b6 (r.behind o).hi.length d6) (.bool (r.behind o).all) (r.behind o)) := HYo.out.here (hb)
      have HTp : Hid (Has4 wg wd.heap.size (.slice e1 (o.meet r).lo.length f1) (.slice e2 (o.meet r).hi.length f2) (.bool (o.meet r).all) (o.meet r)) := HTo.out.here (hb)
      have HKp : Hid (KeyAt wg (.slice a5 k.length c5) k) := HKo.out.here (hb)
      have HSp : Hid (Has4 wg wf.heap.size (.slice e3 (r.meet r).lo.length f3) (.slice e4 (r.meet r).hi.length f4) (.bool (r.meet r).all) (r.meet r)) := by rw [hwg]; exact Has4.new HSN.out
      clear hb hwg
      have HFM : Hid ((r.meet o).formed = true) := Rg.form_formed _
      have HFX : Hid ((r.ahead o).formed = true) := (Rg.parts_formed r o).1
      have HFY : Hid ((r.behind o).formed = true) := (Rg.parts_formed r o).2
      have HFS : Hid ((r.meet r).formed = true) := Rg.form_formed _
      obtain ⟨k0, k1, k2⟩ := HMp.out.box.cells
      go_wp2_with fail
      refine (lawForm_any HMp.out.rng).mono ?_
      rintro e wh0 ⟨rfl, hb⟩
      rw [HFM.out]
      have HBq0 : Hid (Below w.heap.size w wh0) := HBp0.out.trans ((hb).mono HBp0.out.size)
      have HAq : Hid (Has4 wh0 w.heap.size (.slice a1 r.lo.length c1) (.slice a2 r.hi.length c2) (.bool r.all) r) := HAp.out.here (hb)
      have HOq : Hid (Has4 wh0 (w.heap.size + 1) (.slice a3 o.lo.length c3) (.slice a4 o.hi.length c4) (.bool o.all) o) := HOp.out.here (hb)
      have HMq : Hid (Has4 wh0 w2.heap.size (.slice b1 (r.meet o).lo.length d1) (.slice b2 (r.meet o).hi.length d2) (.bool (r.meet o).all) (r.meet o)) := HMp.out.here (hb)
      have HXq : Hid (Has4 wh0 w3.heap.size (.slice b3 (r.ahead o).lo.length d3) (.slice b4 (r.ahead o).hi.length d4) (.bool (r.ahead o).all) (r.ahead o)) := HXp.out.here (hb)
      have HYq : Hid (Has4 wh0 (w3.heap.size + 1) (.slice b5 (r.behind o).lo.length d5) (.slice b6 (r.behind o).hi.length d6) (.bool (r.behind o).all) (r.behind o)) := HYp.out.here (hb)
      have HTq : Hid (Has4 wh0 wd.heap.size (.slice e1 (o.meet r).lo.length f1) (.slice e2 (o.meet r).hi.length f2) (.bool (o.meet r).all) (o.meet r)) := HTp.out.here (hb)
      have HSq : Hid (Has4 wh0 wf.heap.size (.slice e3 (r.meet r).lo.length f3) (.slice e4 (r.meet r).hi.length f4) (.bool (r.meet r).all) (r.meet r)) := HSp.out.here (hb)
      have HKq : Hid (KeyAt wh0 (.slice a5 k.length c5) k) := HKp.out.here (hb)
      clear hb k0 k1 k2
      obtain ⟨k0, k1, k2⟩ := HXq.out.box.cells
      go_wp2_with fail
      refine (lawForm_any HXq.out.rng).mono ?_
      rintro e wh1 ⟨rfl, hb⟩
      rw [HFX.out]
      have HBr0 : Hid (Below w.heap.size w wh1) := HBq0.out.trans ((hb).mono HBq0.out.size)
      have HAr : Hid (Has4 wh1 w.heap.size (.slice a1 r.lo.length c1) (.slice a2 r.hi.length c2) (.bool r.all) r) := HAq.out.here (hb)
      have HOr : Hid (Has4 wh1 (w.heap.size + 1) (.slice a3 o.lo.length c3) (.slice a4 o.hi.length c4) (.bool o.all) o) := HOq.out.here (hb)
      have HMr : Hid (Has4 wh1 w2.heap.size (.slice b1 (r.meet o).lo.length d1) (.slice b2 (r.meet o).hi.length d2) (.bool (r.meet o).all) (r.meet o)) := HMq.out.here (hb)
      have HXr : Hid (Has4 wh1 w3.heap.size (.slice b3 (r.ahead o).lo.length d3) (.slice b4 (r.ahead o).hi.length d4) (.bool (r.ahead o).all) (r.ahead o)) := HXq.out.here (hb)
      have HYr : Hid (Has4 wh1 (w3.heap.size + 1) (.slice b5 (r.behind o).lo.length d5) (.slice b6 (r.behind o).hi.length d6) (.bool (r.behind o).all) (r.behind o)) := HYq.out.here (hb)
      have HTr : Hid (Has4 wh1 wd.heap.size (.slice e1 (o.meet r).lo.length f1) (.slice e2 (o.meet r).hi.length f2) (.bool (o.meet r).all) (o.meet r)) := HTq.out.here (hb)
      have HSr : Hid (Has4 wh1 wf.heap.size (.slice e3 (r.meet r).lo.length f3) (.slice e4 (r.meet r).hi.length f4) (.bool (r.meet r).all) (r.meet r)) := HSq.out.here (hb)
      have HKr : Hid (KeyAt wh1 (.slice a5 k.length c5) k) := HKq.out.here (hb)
      clear hb k0 k1 k2
      obtain ⟨k0, k1, k2⟩ := HYr.out.box.cells
      go_wp2_with fail
      refine (lawForm_any HYr.out.rng).mono ?_
      rintro e wh2 ⟨rfl, hb⟩
      rw [HFY.out]
      have HBs0 : Hid (Below w.heap.size w wh2) := HBr0.out.trans ((hb).mono HBr0.out.size)
      have HAs : Hid (Has4 wh2 w.heap.size (.slice a1 r.lo.length c1) (.slice a2 r.hi.length c2) (.bool r.all) r) := HAr.out.here (hb)
      have HOs : Hid (Has4 wh2 (w.heap.size + 1) (.slice a3 o.lo.length c3) (.slice a4 o.hi.length c4) (.bool o.all) o) := HOr.out.here (hb)
      have HMs : Hid (Has4 wh2 w2.heap.size (.slice b1 (r.meet o).lo.length d1) (.slice b2 (r.meet o).hi.length d2) (.bool (r.meet o).all) (r.meet o)) := HMr.out.here (hb)
      have HXs : Hid (Has4 wh2 w3.heap.size (.slice b3 (r.ahead o).lo.length d3) (.slice b4 (r.ahead o).hi.length d4) (.bool (r.ahead o).all) (r.ahead o)) := HXr.out.here (hb)
      have HYs : Hid (Has4 wh2 (w3.heap.size + 1) (.slice b5 (r.behind o).lo.length d5) (.slice b6 (r.behind o).hi.length d6) (.bool (r.behind o).all) (r.behind o)) := HYr.out.here (hb)
      have HTs : Hid (Has4 wh2 wd.heap.size (.slice e1 (o.meet r).lo.length f1) (.slice e2 (o.meet r).hi.length f2) (.bool (o.meet r).all) (o.meet r)) := HTr.out.here (hb)
      have HSs : Hid (Has4 wh2 wf.heap.size (.slice e3 (r.meet r).lo.length f3) (.slice e4 (r.meet r).hi.length f4) (.bool (r.meet r).all) (r.meet r)) := HSr.out.here (hb)
      have HKs : Hid (KeyAt wh2 (.slice a5 k.length c5) k) := HKr.out.here (hb)
      clear hb k0 k1 k2
      obtain ⟨k0, k1, k2⟩ := HSs.out.box.cells
      go_wp2_with fail
      refine (lawForm_any HSs.out.rng).mono ?_
      rintro e wh3 ⟨rfl, hb⟩
      rw [HFS.out]
      have HBt0 : Hid (Below w.heap.size w wh3) := HBs0.out.trans ((hb).mono HBs0.out.size)
      have HAt : Hid (Has4 wh3 w.heap.size (.slice a1 r.lo.length c1) (.slice a2 r.hi.length c2) (.bool r.all) r) := HAs.out.here (hb)
      have HOt : Hid (Has4 wh3 (w.heap.size + 1) (.slice a3 o.lo.length c3) (.slice a4 o.hi.length c4) (.bool o.all) o) := HOs.out.here (hb)
      have HMt : Hid (Has4 wh3 w2.heap.size (.slice b1 (r.meet o).lo.length d1) (.slice b2 (r.meet o).hi.length d2) (.bool (r.meet o).all) (r.meet o)) := HMs.out.here (hb)
      have HXt : Hid (Has4 wh3 w3.heap.size (.slice b3 (r.ahead o).lo.length d3) (.slice b4 (r.ahead o).hi.length d4) (.bool (r.ahead o).all) (r.ahead o)) := HXs.out.here (hb)
      have HYt : Hid (Has4 wh3 (w3.heap.size + 1) (.slice b5 (r.behind o).lo.length d5) (.slice b6 (r.behind o).hi.length d6) (.bool (r.behind o).all) (r.behind o)) := HYs.out.here (hb)
      have HTt : Hid (Has4 wh3 wd.heap.size (.slice e1 (o.meet r).lo.length f1) (.slice e2 (o.meet r).hi.length f2) (.bool (o.meet r).all) (o.meet r)) := HTs.out.here (hb)
      have HSt : Hid (Has4 wh3 wf.heap.size (.slice e3 (r.meet r).lo.length f3) (.slice e4 (r.meet r).hi.length f4) (.bool (r.meet r).all) (r.meet r)) := HSs.out.here (hb)
      have HKt : Hid (KeyAt wh3 (.slice a5 k.length c5) k) := HKs.out.here (hb)
      clear hb k0 k1 k2
      obtain ⟨k0, k1, k2⟩ := HMt.out.box.cells
      obtain ⟨m0, m1, m2⟩ := HTt.out.box.cells
      go_wp2_with fail
      refine (sameRange_any HMt.out.rng HTt.out.rng).mono ?_
      rintro e wi ⟨rfl, hb⟩
      have hsame : decide (r.meet o = o.meet r) = true := by simp [Rg.meet_comm r o]
      rw [hsame]
      have HBu0 : Hid (Below w.heap.size w wi) := HBt0.out.trans ((hb).mono HBt0.out.size)
      have HAu : Hid (Has4 wi w.heap.size (.slice a1 r.lo.length c1) (.slice a2 r.hi.length c2) (.bool r.all) r) := HAt.out.here (hb)
      have HOu : Hid (Has4 wi (w.heap.size + 1) (.slice a3 o.lo.length c3) (.slice a4 o.hi.length c4) (.bool o.all) o) := HOt.out.here (hb)
      have HMu : Hid (Has4 wi w2.heap.size (.slice b1 (r.meet o).lo.length d1) (.slice b2 (r.meet o).hi.length d2) (.bool (r.meet o).all) (r.meet o)) := HMt.out.here (hb)
      have HXu : Hid (Has4 wi w3.heap.size (.slice b3 (r.ahead o).lo.length d3) (.slice b4 (r.ahead o).hi.length d4) (.bool (r.ahead o).all) (r.ahead o)) := HXt.out.here (hb)
      have HYu : Hid (Has4 wi (w3.heap.size + 1) (.slice b5 (r.behind o).lo.length d5) (.slice b6 (r.behind o).hi.length d6) (.bool (r.behind o).all) (r.behind o)) := HYt.out.here (hb)
      have HTu : Hid (Has4 wi wd.heap.size (.slice e1 (o.meet r).lo.length f1) (.slice e2 (o.meet r).hi.length f2) (.bool (o.meet r).all) (o.meet r)) := HTt.out.here (hb)
      have HSu : Hid (Has4 wi wf.heap.size (.slice e3 (r.meet r).lo.length f3) (.slice e4 (r.meet r).hi.length f4) (.bool (r.meet r).all) (r.meet r)) := HSt.out.here (hb)
      have HKu : Hid (KeyAt wi (.slice a5 k.length c5) k) := HKt.out.here (hb)
      clear hb hsame k0 k1 k2 m0 m1 m2
      obtain ⟨k0, k1, k2⟩ := HAu.out.box.cells
      obtain ⟨m0, m1, m2⟩ := HOu.out.box.cells
      obtain ⟨n0, n1, n2⟩ := HXu.out.box.cells
      obtain ⟨p0, p1, p2⟩ := HYu.out.box.cells
      have HIP : Hid (r.inside o = ((r.ahead o).empty && (r.behind o).empty)) := Rg.inside_parts r o
      go_upto_region 20 with fail
      go_cut [23] (fun s23 wx => s23 = .bool true ∧ Below wi.heap.size wi wx)
      case first =>
        have hip := HIP.out
        have HE1 := fun (W : World) (hb : Below wi.heap.size wi W) => empty_any (HXu.out.rng.here hb)
        have HE2 := fun (W : World) (hb : Below wi.heap.size wi W) => empty_any (HYu.out.rng.here hb)
        have HIN1 := fun (W : World) (hb : Below wi.heap.size wi W) => inside_any (HAu.out.rng.here hb) (HOu.out.rng.here hb)
        generalize r.inside o = I at hip HIN1
        generalize (r.ahead o).empty = E1 at hip HE1
        generalize (r.behind o).empty = E2 at hip HE2
        subst hip
        cases E1 with
        | true =>
          cases E2
          all_goals
            go_region_held_law (fun W' => W'.cell? ⟨w.heap.size, 0, none⟩ = some (.slice a1 r.lo.length c1) ∧ W'.cell? ⟨w.heap.size, 1, none⟩ = some (.slice a2 r.hi.length c2) ∧ W'.cell? ⟨w.heap.size, 2, none⟩ = some (.bool r.all) ∧ W'.cell? ⟨(w.heap.size + 1), 0, none⟩ = some (.slice a3 o.lo.length c3) ∧ W'.cell? ⟨(w.heap.size + 1), 1, none⟩ = some (.slice a4 o.hi.length c4) ∧ W'.cell? ⟨(w.heap.size + 1), 2, none⟩ = some (.bool o.all) ∧ W'.cell? ⟨w3.heap.size, 0, none⟩ = some (.slice b3 (r.ahead o).lo.length d3) ∧ W'.cell? ⟨w3.heap.size, 1, none⟩ = some (.slice b4 (r.ahead o).hi.length d4) ∧ W'.cell? ⟨w3.heap.size, 2, none⟩ = some (.bool (r.ahead o).all) ∧ W'.cell? ⟨(w3.heap.size + 1), 0, none⟩ = some (.slice b5 (r.behind o).lo.length d5) ∧ W'.cell? ⟨(w3.heap.size + 1), 1, none⟩ = some (.slice b6 (r.behind o).hi.length d6) ∧ W'.cell? ⟨(w3.heap.size + 1), 2, none⟩ = some (.bool (r.behind o).all)) (first | go_keep | (refine ⟨?_, ?_, ?_, ?_, ?_, ?_, ?_, ?_, ?_, ?_, ?_, ?_⟩ <;> assumption))
              (first
                | (go_at_call 9; refine (HIN1 wi.drew ((Below.refl _ wi).drew)).mono ?_; rintro e y1 ⟨rfl, hb⟩
                   have HZ1 : Hid (Below wi.heap.size wi y1) := ((Below.refl _ wi).drew).trans hb
                   clear hb
                   obtain ⟨k0x, k1x, k2x⟩ := (HAu.out.here HZ1.out).box.cells
                   obtain ⟨m0x, m1x, m2x⟩ := (HOu.out.here HZ1.out).box.cells
                   obtain ⟨n0x, n1x, n2x⟩ := (HXu.out.here HZ1.out).box.cells
                   obtain ⟨p0x, p1x, p2x⟩ := (HYu.out.here HZ1.out).box.cells)
                | (go_at_call_of 10 d3; refine (HE1 y1 HZ1.out).mono ?_; rintro e y2 ⟨rfl, hb⟩
                   have HZ2 : Hid (Below wi.heap.size wi y2) := HZ1.out.trans (hb.mono HZ1.out.size)
                   clear hb
                   obtain ⟨k0y, k1y, k2y⟩ := (HAu.out.here HZ2.out).box.cells
                   obtain ⟨m0y, m1y, m2y⟩ := (HOu.out.here HZ2.out).box.cells
                   obtain ⟨n0y, n1y, n2y⟩ := (HXu.out.here HZ2.out).box.cells
                   obtain ⟨p0y, p1y, p2y⟩ := (HYu.out.here HZ2.out).box.cells)
                | (go_at_call_of 10 d5; refine (HE2 y2 HZ2.out).mono ?_; rintro e y3 ⟨rfl, hb⟩
                   have HZ3 : Hid (Below wi.heap.size wi y3) := HZ2.out.trans (hb.mono HZ2.out.size)
                   clear hb
                   obtain ⟨k0z, k1z, k2z⟩ := (HAu.out.here HZ3.out).box.cells
                   obtain ⟨m0z, m1z, m2z⟩ := (HOu.out.here HZ3.out).box.cells
                   obtain ⟨n0z, n1z, n2z⟩ := (HXu.out.here HZ3.out).box.cells
                   obtain ⟨p0z, p1z, p2z⟩ := (HYu.out.here HZ3.out).box.cells))
            go_wp2_with fail
            go_meet
            exact ⟨rfl, HZ3.out⟩
        | false =>
          go_region_with (first
                | (go_at_call 9; refine (HIN1 wi.drew ((Below.refl _ wi).drew)).mono ?_; rintro e y1 ⟨rfl, hb⟩
                   have HZ1 : Hid (Below wi.heap.size wi y1) := ((Below.refl _ wi).drew).trans hb
                   clear hb
                   obtain ⟨k0x, k1x, k2x⟩ := (HAu.out.here HZ1.out).box.cells
                   obtain ⟨m0x, m1x, m2x⟩ := (HOu.out.here HZ1.out).box.cells
                   obtain ⟨n0x, n1x, n2x⟩ := (HXu.out.here HZ1.out).box.cells
                   obtain ⟨p0x, p1x, p2x⟩ := (HYu.out.here HZ1.out).box.cells)
                | (go_at_call_of 10 d3; refine (HE1 y1 HZ1.out).mono ?_; rintro e y2 ⟨rfl, hb⟩
                   have HZ2 : Hid (Below wi.heap.size wi y2) := HZ1.out.trans (hb.mono HZ1.out.size)
                   clear hb
                   obtain ⟨k0y, k1y, k2y⟩ := (HAu.out.here HZ2.out).box.cells
                   obtain ⟨m0y, m1y, m2y⟩ := (HOu.out.here HZ2.out).box.cells
                   obtain ⟨n0y, n1y, n2y⟩ := (HXu.out.here HZ2.out).box.cells
                   obtain ⟨p0y, p1y, p2y⟩ := (HYu.out.here HZ2.out).box.cells))
          all_goals
            go_wp2_with fail
            go_meet
            exact ⟨rfl, HZ2.out⟩
      case rest =>
        obtain ⟨rfl, hbc⟩ := hcut
        have HBv0 : Hid (Below w.heap.size w wc) := HBu0.out.trans ((hbc).mono HBu0.out.size)
        have HAv : Hid (Has4 wc w.heap.size (.slice a1 r.lo.length c1) (.slice a2 r.hi.length c2) (.bool r.all) r) := HAu.out.here (hbc)
        have HOv : Hid (Has4 wc (w.heap.size + 1) (.slice a3 o.lo.length c3) (.slice a4 o.hi.length c4) (.bool o.all) o) := HOu.out.here (hbc)
        have HMv : Hid (Has4 wc w2.heap.size (.slice b1 (r.meet o).lo.length d1) (.slice b2 (r.meet o).hi.length d2) (.bool (r.meet o).all) (r.meet o)) := HMu.out.here (hbc)
        have HXv : Hid (Has4 wc w3.heap.size (.slice b3 (r.ahead o).lo.length d3) (.slice b4 (r.ahead o).hi.length d4) (.bool (r.ahead o).all) (r.ahead o)) := HXu.out.here (hbc)
        have HYv : Hid (Has4 wc (w3.heap.size + 1) (.slice b5 (r.behind o).lo.length d5) (.slice b6 (r.behind o).hi.length d6) (.bool (r.behind o).all) (r.behind o)) := HYu.out.here (hbc)
        have HTv : Hid (Has4 wc wd.heap.size (.slice e1 (o.meet r).lo.length f1) (.slice e2 (o.meet r).hi.length f2) (.bool (o.meet r).all) (o.meet r)) := HTu.out.here (hbc)
        have HSv : Hid (Has4 wc wf.heap.size (.slice e3 (r.meet r).lo.length f3) (.slice e4 (r.meet r).hi.length f4) (.bool (r.meet r).all) (r.meet r)) := HSu.out.here (hbc)
        have HKv : Hid (KeyAt wc (.slice a5 k.length c5) k) := HKu.out.here (hbc)
        clear hbc k0 k1 k2 m0 m1 m2 n0 n1 n2 p0 p1 p2
        obtain ⟨k0, k1, k2⟩ := HSv.out.box.cells
        go_wp2_with fail
        refine (has_any HSv.out.rng HKv.out).mono ?_
        rintro e wz ⟨rfl, hb⟩
        rw [HOW.out]
        have HBZ : Hid (Below w.heap.size w wz) := HBv0.out.trans (hb.mono HBv0.out.size)
        clear hb k0 k1 k2
        cases pA
        all_goals
          go_wp2
          go_ret
          exact ⟨rfl, HBZ.out⟩
end Go.Proofs.Ytphohkchffcjeab
