/- The law's shown: the small node there and back; its message is taken. -/
import Derived.Test.YtpmcpomomagkhaaSmallN
namespace Go.Proofs.Ytpmcpomomagkhaa
open Go.RowKit

/-- One form. -/
theorem encN_inj {z : Int} {n n' : Nd} (h : checkN z n = 0) (h' : checkN z n' = 0) (e : encN n = encN n') : n = n' := by
  obtain ⟨h1, _, _, _⟩ := checkN_ok h'
  obtain ⟨_, _, h6, h7⟩ := checkN_small h'
  have hr : ReadN z (encN n') n'.ms.length n'.k n'.ms [] := ⟨h1, by simp [encN], h7, by omega⟩
  exact (hr.all h e).2
theorem small_check : checkN 512 smallN = 0 := by decide +kernel
theorem small_rise : riseK smallK.ks = true := by decide
theorem small_rest : restN smallK 2 [smallM] = [] := by decide
theorem small_for : forN smallK 2 [smallM] = [smallM] := by decide
theorem small_size : sizesM [smallM] ≤ 1099511627776 := by decide
theorem NewNode.forms {base : Nat} {w : World} {v : Value} {d : Kd} {F : List Mt} (h : NewNode base w v d F) : ∃ a1 n1 c1 a2 n2 c2 a3 c3, v = .agg #[.slice a1 n1 c1, .slice a2 n2 c2, .slice a3 F.length c3] := by
  obtain ⟨vp, vk, vm, e, h1, h2⟩ := h.is
  obtain ⟨vp', vk', F', e', g1, g2, _⟩ := h1.is
  cases e'
  obtain ⟨p1, q1, f1⟩ := own_form' g1.own
  obtain ⟨p2, q2, f2⟩ := own_form' g2.own
  obtain ⟨p3, q3, f3⟩ := own_form' h2.own
  subst f1 f2 f3
  exact ⟨_, _, _, _, _, _, _, _, e⟩

set_option maxHeartbeats 6400000 in
set_option maxRecDepth 100000 in
theorem shown_any (w : World) : Calls Try.prog 5 #[] w fun r w' => r = .returned (.bool true) ∧ Below w.heap.size w w' := by
  have HSM : Hid (∀ W', Calls Try.prog 13 #[] W' fun r w' => ∃ v, r = .returned v ∧ (SmallAt w' v ∧ Below W'.heap.size W' w')) := fun W' => small_any W'
  go_enter Try.func5, Try.ntmps5
  go_wp2_with fail
  refine (HSM.out w).mono ?_
  rintro r w1 ⟨v1, rfl, hs1, hb1⟩
  obtain ⟨a1, c1, a2, c2, a3, c3, K, M, e1, hn1, hnd, hkl, hml⟩ := hs1.is
  have HEN := encodeN_any (z := 512) hn1 (by have : msOf M = [smallM] := congrArg Nd.ms hnd; rw [this]; exact small_size)
  rw [hnd, small_check] at HEN
  simp only [if_true] at HEN
  have HB1 : Hid (Below w.heap.size w w1) := hb1
  subst e1
  clear hs1 hn1 hnd hkl hml hb1
  go_wp2_with fail
  refine HEN.mono ?_
  rintro r w2 ⟨v2, rfl, hk2, hb2⟩
  have HB2 : Hid (Below w.heap.size w w2) := HB1.out.trans (hb2.mono HB1.out.size)
  have HDE := decodeN_any (z := 512) hk2.in
  obtain ⟨p2, q2, f2⟩ := hk2.in.form
  subst f2
  clear hk2 hb2 HEN
  go_wp2_with fail
  refine HDE.mono ?_
  rintro r w3 ⟨v3, code, rfl, hb3, hcs⟩
  have HB3 : Hid (Below w.heap.size w w3) := HB2.out.trans (hb3.mono HB2.out.size)
  obtain ⟨rfl, d, F, hnn, hck, hec⟩ : code = 0 ∧ ∃ d F, NewNode w2.heap.size w3 v3 d F ∧ checkN 512 ⟨d, msOf F⟩ = 0 ∧ encN ⟨d, msOf F⟩ = encN smallN := by
    rcases hcs with h | ⟨_, _, h⟩
    · exact h
    · exact absurd rfl ((h (by decide)).2 smallN small_check)
  have his := encN_inj hck small_check hec
  have hdk : d = smallK := congrArg Nd.k his
  have hfm : msOf F = [smallM] := congrArg Nd.ms his
  have hfl : F.length = 1 := by have := congrArg List.length hfm; rw [msOf_length] at this; exact this
  subst hdk
  obtain ⟨b1, n1, d1, b2, n2, d2, b3, d3, f3⟩ := hnn.forms
  rw [hfl] at f3
  obtain ⟨K3, hna, hkd⟩ := hnn.at (z := 512) (checkN_ok hck).1 (by omega)
  obtain ⟨W3, hW3⟩ : ∃ W3, W3 = w3.alloc (.cells #[.slice b1 n1 d1, .slice b2 n2 d2, .slice b3 1 d3] 31) := ⟨_, rfl⟩
  have HB33 : Hid (Below w3.heap.size w3 W3) := by rw [hW3]; exact below_new _ _
  have HBW3 : Hid (Below w.heap.size w W3) := HB3.out.trans (HB33.out.mono HB3.out.size)
  have HX3 : Hid (NBox W3 w3.heap.size (.slice b1 n1 d1) (.slice b2 n2 d2) (.slice b3 1 d3)) := by rw [hW3]; exact NBox.new _ _ _ _
  have HNA : Hid (∀ W', Below W3.heap.size W3 W' → NodeAt W'.heap.size W' (.agg #[.slice b1 n1 d1, .slice b2 n2 d2, .slice b3 1 d3]) smallK.ps K3 F) := fun W' hb => by rw [← f3]; exact (hna.here HB33.out).here hb
  have HND : Hid (nd smallK.ps K3 F = smallN) := by rw [Hid, nd_eq hkd, hfm]; rfl
  have HD3 : Hid (Below W3.heap.size W3 W3.drew) := (Below.refl _ _).drew
  obtain ⟨x0, x1, x2⟩ := HX3.out.cells
  subst f3
  clear hcs hnn hck hec his hfm hfl hna hkd hb3 HDE
  go_wp2_with fail
  rw [← hW3]
  clear hW3
  go_region_held_law (fun W' => W'.cell? ⟨w3.heap.size, 0, none⟩ = some (.slice b1 n1 d1) ∧ W'.cell? ⟨w3.heap.size, 1, none⟩ = some (.slice b2 n2 d2) ∧ W'.cell? ⟨w3.heap.size, 2, none⟩ = some (.slice b3 1 d3)) (first | go_keep | (refine ⟨?_, ?_, ?_⟩ <;> assumption))
    (first
      | (go_at_call 13
         refine (HSM.out _).mono ?_
         rintro r w4 ⟨v4, rfl, hs4, hb4⟩
         have HB4 : Hid (Below W3.heap.size W3 w4) := HD3.out.trans (hb4.mono HD3.out.size)
         obtain ⟨y0, y1, y2⟩ := (HX3.out.here HB4.out).cells
         have HS4 : Hid (SmallAt w4 v4) := hs4
         obtain ⟨a4, c4, a5, c5, a6, c6, e4⟩ : ∃ a1 c1 a2 c2 a3 c3, v4 = .agg #[.slice a1 3 c1, .slice a2 2 c2, .slice a3 1 c3] := (by obtain ⟨a1, c1, a2, c2, a3, c3, _, _, e, _⟩ := hs4.is; exact ⟨a1, c1, a2, c2, a3, c3, e⟩)
         subst e4
         have HSA : Hid (Calls Try.prog 12 #[.agg #[.slice b1 n1 d1, .slice b2 n2 d2, .slice b3 1 d3], .agg #[.slice a4 3 c4, .slice a5 2 c5, .slice a6 1 c6]] w4 fun e w' => e = .returned (.bool true) ∧ Below w4.heap.size w4 w') := (by
           obtain ⟨_, _, _, _, _, _, K4, M4, _, hn4, hnd4, _, _⟩ := HS4.out.is
           have h := same_any (HNA.out w4 HB4.out) hn4
           rw [HND.out, hnd4, decide_eq_true rfl] at h
           exact h)
         clear hs4 hb4)
      | (go_at_call 12
         refine HSA.out.mono ?_
         rintro r w5 ⟨rfl, hb5⟩
         have HB5 : Hid (Below W3.heap.size W3 w5) := HB4.out.trans (hb5.mono HB4.out.size)
         obtain ⟨z0, z1, z2⟩ := (HX3.out.here HB5.out).cells
         clear hb5))
  go_wp2_with fail
  refine (HSM.out _).mono ?_
  rintro r w6 ⟨v6, rfl, hs6, hb6⟩
  have HBW5 : Hid (Below w.heap.size w w5) := HBW3.out.trans (HB5.out.mono HBW3.out.size)
  have HB6 : Hid (Below w.heap.size w w6) := HBW5.out.trans (hb6.mono HBW5.out.size)
  obtain ⟨a7, c7, a8, c8, a9, c9, K6, M6, e6, hn6, hnd6, hkl6, hml6⟩ := hs6.is
  subst e6
  obtain ⟨vp6, vk6, vm6, e6, hP6, hK6, hM6⟩ := hn6.is
  cases e6
  have HTA := takeN_any (i := 2) (a1 := a7) (a2 := a8) (a3 := a9) (c1 := c7) (c2 := c8) (c3 := c9) (ps := [5, 9, 4]) (K := K6) (M := M6) hP6 (by rw [hkl6]; exact hK6) (by rw [hml6]; exact hM6) (by have : Br.keysOf K6 = smallK.ks := congrArg (fun n => n.k.ks) hnd6; rw [this]; exact small_rise) (by omega) (by decide) (by decide)
  rw [show Br.kd [5, 9, 4] K6 = smallK from congrArg Nd.k hnd6, show msOf M6 = [smallM] from congrArg Nd.ms hnd6, small_rest, small_for, hkl6, hml6] at HTA
  clear hs6 hn6 hnd6 hkl6 hml6 hP6 hK6 hM6 hb6
  go_wp2_with fail
  refine HTA.mono ?_
  rintro r w7 ⟨vp, vk, vm, vt, FK, F1, F2, rfl, hi7, hr7, _, hm1, he1, hm2, he2, hb7⟩
  have HB7 : Hid (Below w.heap.size w w7) := HB6.out.trans (hb7.mono HB6.out.size)
  have hl1 : F1.length = 0 := by have := congrArg List.length he1; rw [msOf_length] at this; exact this
  have hl2 : F2.length = 1 := by have := congrArg List.length he2; rw [msOf_length] at this; exact this
  obtain ⟨p1, q1, f1⟩ := own_form' hi7.own
  obtain ⟨p3, q3, f3⟩ := own_form' hr7.own
  obtain ⟨p4, q4, f4⟩ := own_form' hm1.own
  obtain ⟨p5, q5, f5⟩ := own_form' hm2.own
  rw [hl1] at f4
  rw [hl2] at f5
  subst f1 f3 f4 f5
  obtain ⟨e, he⟩ : ∃ e, F2[0]? = some e := ⟨_, List.getElem?_eq_getElem (by omega)⟩
  have hem : e.m = smallM := by
    have := msOf_get he
    rw [he2] at this
    simpa using this.symm
  obtain ⟨g, off, c', e1, k0, _⟩ := (hm2.at (by omega)).cells 0 e he
  rw [hl2] at e1
  cases e1
  rw [hem] at k0
  have k0' : w7.cell? ⟨g, off, none⟩ = some (.int .u64 7) := by simpa [smallM] using k0
  have hgl := World.block_lt_of_cell? _ _ k0'
  obtain ⟨W8, hW8⟩ : ∃ W8, W8 = w7.alloc (.cells #[.slice p1 3 q1, .slice p3 FK.length q3, .slice p4 0 q4] 31) := ⟨_, rfl⟩
  have HB78 : Hid (Below w7.heap.size w7 W8) := by rw [hW8]; exact below_new _ _
  have HX8 : Hid (NBox W8 w7.heap.size (.slice p1 3 q1) (.slice p3 FK.length q3) (.slice p4 0 q4)) := by rw [hW8]; exact NBox.new _ _ _ _
  have HB8 : Hid (Below w.heap.size w W8) := HB7.out.trans (HB78.out.mono HB7.out.size)
  have k08 : W8.cell? ⟨g, off, none⟩ = some (.int .u64 7) := (HB78.out.cell (p := ⟨g, off, none⟩) hgl).trans k0'
  obtain ⟨r0, r1, r2⟩ := HX8.out.cells
  clear hi7 hr7 hm1 he1 hm2 he2 hb7 hl1 hl2 he hem k0 k0' HTA
  go_upto_region 5 with fail
  rw [← hW8]
  clear hW8
  go_wp2
  go_ret
  exact ⟨rfl, HB8.out⟩
end Go.Proofs.Ytpmcpomomagkhaa
