/- The document's Encode. -/
import Derived.Test.YtgifnaahahfhbaaRefEncE
namespace Go.Proofs.Ytgifnaahahfhbaa
open Go.RowKit

set_option maxHeartbeats 1600000 in
set_option maxRecDepth 100000 in
theorem refEncode_any {w : World} {v : Value} {L : List It} {z : Int} (hL : ListAt w.heap.size w v L) (hw : weightE (L.map It.e) ≤ 68719476736) :
    Calls Try.prog 32 #[.int .i64 z, v] w fun r w' => ∃ v', r = .returned (.tuple #[v', .int .i64 (checkE z (L.map It.e) : Nat)]) ∧ NewKey w.heap.size w' v' (if checkE z (L.map It.e) = 0 then encE (L.map It.e) else []) ∧ Below w.heap.size w w' := by
  have hsh := hL.short
  obtain ⟨a, c, rfl⟩ := hL.form
  have HL : Hid (ListAt w.heap.size w (.slice a L.length c) L) := hL
  have HCK : Hid (Calls Try.prog 33 #[.int .i64 z, .slice a L.length c] w fun r w'' => r = .returned (.int .i64 (checkE z (L.map It.e) : Nat)) ∧ ∃ q, w'' = w.drewN q) := refCheck_any hL hw
  clear hL
  by_cases hc : checkE z (L.map It.e) = 0
  case neg =>
    have hcz : ((checkE z (L.map It.e) : Int) != 0) = true := by simp; omega
    rw [if_neg hc]
    go_enter Try.func32, Try.ntmps32
    go_wp2_with (go_at_call 33; refine HCK.out.mono ?_; rintro r w1 ⟨rfl, q, rfl⟩)
    go_ret2
    exact ⟨_, rfl, NewKey.nil _ _, below_draws (Below.refl _ _) q⟩
  case pos =>
  obtain ⟨hz, hf, hb⟩ := checkE_ok hc
  have hzz := sized_le hz
  have HM : Hid (∀ e ∈ L.map It.e, e.k.length ≠ 0 ∧ e.k.length ≤ z.toNat / 16 ∧ e.v.length ≤ z.toNat / 4) := faultF_mem hf
  have h6 : L.length < 65536 := by have := bytesF_length [] (L.map It.e); unfold bytesE at hb; simp at this; omega
  rw [hc] at HCK ⊢
  simp only [if_true]
  clear hf hc hb
  go_enter Try.func32, Try.ntmps32
  go_wp2_with fail
  refine HCK.out.mono ?_
  rintro r w1 ⟨rfl, q, rfl⟩
  go_wp2_with fail
  refine (refTwo_any (base := w.heap.size) (w := w.drewN q) (n := L.length) (NewKey.nil _ _) (by simp) h6 (Nat.le_refl _)).mono ?_
  rintro r w4 ⟨v4, rfl, hk4, hkp4⟩
  have HV4 : Hid (NewKey w.heap.size w4 v4 (two L.length)) := hk4
  have HB4 : Hid (Below w.heap.size w w4) := (below_draws (Below.refl _ _) q).trans hkp4.low
  clear hk4 hkp4
  go_wp2_with fail
  go_loopw [7, 8] (fun b i wx => ∃ k : Nat, k ≤ L.length ∧ i = .int .i64 k ∧ NewKey w.heap.size wx b (two L.length ++ encF [] ((L.map It.e).take k)) ∧ Below w.heap.size w wx) (fun _ i _ => L.length - (intOf i).toNat)
  case atStart => exact ⟨0, by omega, rfl, by simp only [List.take_zero, encF, List.append_nil]; exact HV4.out, HB4.out⟩
  case round =>
    obtain ⟨k, hk, rfl, hv, hbe⟩ := hrel
    have HV : Hid (NewKey w.heap.size wr u7 (two L.length ++ encF [] ((L.map It.e).take k))) := hv
    have HBE : Hid (Below w.heap.size w wr) := hbe
    clear hv hbe
    by_cases hlt : k < L.length
    · have hzl : (k : Int) < (L.length : Int) := by omega
      obtain ⟨e, he⟩ : ∃ e, L[k]? = some e := ⟨_, List.getElem?_eq_getElem hlt⟩
      have HEK : Hid (L[k]? = some e) := he
      obtain ⟨a1, c1, f1⟩ := (HL.out.ok e (List.mem_of_getElem? he)).k.form
      obtain ⟨a2, c2, f2⟩ := (HL.out.ok e (List.mem_of_getElem? he)).v.form
      obtain ⟨hm1, hm2, hm3⟩ := HM.out e.e (List.mem_map.2 ⟨e, List.mem_of_getElem? he, rfl⟩)
      obtain ⟨g, off, c', e1, _, _⟩ := HL.out.cells k e he
      cases e1
      have HCE : Hid (∀ W, Below w.heap.size w W → W.cell? ⟨g, off + k * 2, none⟩ = some (.slice a1 e.e.k.length c1) ∧ W.cell? ⟨g, off + k * 2 + 1, none⟩ = some (.slice a2 e.e.v.length c2)) := fun W hW => by
        obtain ⟨_, _, _, e1, m0, m1⟩ := (HL.out.here hW).cells k e HEK.out
        cases e1
        rw [f1] at m0
        rw [f2] at m1
        exact ⟨m0, m1⟩
      have HKI : Hid (∀ W, Below w.heap.size w W → KeyIn w.heap.size W (.slice a1 e.e.k.length c1) e.e.k) := fun W hW => by
        rw [← f1]; exact ((HL.out.below hW).ok e (List.mem_of_getElem? HEK.out)).k
      have HVI : Hid (∀ W, Below w.heap.size w W → KeyIn w.heap.size W (.slice a2 e.e.v.length c2) e.e.v) := fun W hW => by
        rw [← f2]; exact ((HL.out.below hW).ok e (List.mem_of_getElem? HEK.out)).v
      have HCR := comK_right (prevK (L.map It.e) k) e.e.k
      have HST : Hid (two L.length ++ encF [] ((L.map It.e).take (k + 1)) = ((((two L.length ++ encF [] ((L.map It.e).take k) ++ two (comK (prevK (L.map It.e) k) e.e.k)) ++ two (e.e.k.length - comK (prevK (L.map It.e) k) e.e.k)) ++ two e.e.v.length) ++ e.e.k.drop (comK (prevK (L.map It.e) k) e.e.k)) ++ e.e.v) := by
        rw [Hid, encF_take [] _ k e.e (ents_get he)]
        show _ = _
        simp only [enB, prevK, List.append_assoc]
      have hshort : (two L.length ++ encF [] ((L.map It.e).take k)).length ≤ 412316860418 := by
        rw [List.length_append, encF_length]
        have h1 := bytesF_weight [] ((L.map It.e).take k)
        have h2 := weightE_take (L.map It.e) k
        simp [two]; omega
      generalize two L.length ++ encF [] ((L.map It.e).take k) = T at HST HV hshort
      obtain ⟨K, hK⟩ : ∃ K, K = comK (prevK (L.map It.e) k) e.e.k := ⟨_, rfl⟩
      have HKK : Hid (K = comK (prevK (L.map It.e) k) e.e.k) := hK
      rw [← hK] at HST HCR
      have hK1 : K < 65536 := by omega
      have hK2 : e.e.k.length - K < 65536 := by omega
      have hK3 : e.e.v.length < 65536 := by omega
      have hK4 : (e.e.k.length : Int) - (K : Int) = ((e.e.k.length - K : Nat) : Int) := by omega
      obtain ⟨ga, oa, ea⟩ : ∃ ga oa, a1 = some ⟨ga, oa, none⟩ := by
        obtain ⟨⟨a, c, e1, hb1, _⟩, _⟩ := HKI.out w (Below.refl _ _)
        cases e1
        obtain ⟨x, hx⟩ : ∃ x, e.e.k[0]? = some x := ⟨_, List.getElem?_eq_getElem (by omega)⟩
        obtain ⟨ga, oa, e2, _⟩ := hb1 0 x hx
        exact ⟨ga, oa, e2⟩
      have HF1 : Hid (e.v1 = .slice a1 e.e.k.length c1) := f1
      subst ea
      have HCL : Hid (e.e.k.length ≤ c1) := by
        obtain ⟨⟨a, c, e1, _, hc, _⟩, _⟩ := HKI.out w (Below.refl _ _)
        cases e1; exact hc
      have HD : Hid (∀ w', Below w.heap.size w w' → (c1 ≠ K → KeyAt w' (.slice (some ⟨ga, oa + K, none⟩) (e.e.k.length - K) (c1 - K)) (e.e.k.drop K)) ∧ (∀ c', c1 = K → KeyAt w' (.slice (some ⟨ga, oa, none⟩) (e.e.k.length - K) c') (e.e.k.drop K))) := by
        intro w' hk
        refine ⟨fun _ => ((HKI.out w' hk).drop K HCR).at hk.size, fun c' hcK => ?_⟩
        have hcl := HCL.out
        have e1 : e.e.k.drop K = [] := List.drop_of_length_le (by omega)
        rw [e1, show e.e.k.length - K = 0 by omega]
        exact (KeyIn.void _ _).at hk.size
      obtain ⟨k0, k1⟩ := HCE.out wr HBE.out
      by_cases hk0 : k = 0
      case' pos =>
        have hi0 : ¬ (0 : Int) < (k : Int) := by omega
        have HK0 : Hid (K = 0) := by rw [Hid, HKK.out, hk0, prevK_zero, comK_nil]
        clear he f1 f2 hK hk0
        go_upto_region 8 with fail
        go_cut [9] (fun s9 wx => s9 = .int .i64 (K : Nat) ∧ wx = wr)
        case first =>
          go_wp2_with fail
          go_meet
          exact ⟨by rw [HK0.out]; rfl, rfl⟩
        case' rest =>
          obtain ⟨rfl, hwc⟩ := hcut
          have HB5 : Hid (Below w.heap.size w wc) := by rw [hwc]; exact HBE.out
          have HV5 : Hid (NewKey w.heap.size wc u7 T) := by rw [hwc]; exact HV.out
          clear hwc k0 k1
          go_upto_region 11 with fail
          obtain ⟨w5, rfl⟩ : ∃ w5, w5 = wc := ⟨_, rfl⟩
      case' neg =>
        obtain ⟨j, hj⟩ : ∃ j : Nat, k = j + 1 := ⟨k - 1, by omega⟩
        have hn1 : (k : Int) - 1 = (j : Int) := by omega
        have hn2 : (j : Int) < (L.length : Int) := by omega
        have hn3 : j < L.length := by omega
        have hi0 : (0 : Int) < (k : Int) := by omega
        have hwj := wrap_small (j := j) (by omega)
        obtain ⟨x, hx⟩ : ∃ x, L[j]? = some x := ⟨L[j]'(by omega), List.getElem?_eq_getElem _⟩
        have HP : Hid (K = comK x.e.k e.e.k) := by rw [Hid, HKK.out, hj, prevK_succ (ents_get hx)]
        obtain ⟨_, _, _, e1, m0, m1⟩ := (HL.out.here HBE.out).cells j x hx
        cases e1
        have HCO : Hid (∀ q, Calls Try.prog 59 #[x.v1, .slice (some ⟨ga, oa, none⟩) e.e.k.length c1] (wr.drewN q) fun r w' => r = .returned (.int .i64 (K : Nat)) ∧ ∃ p, w' = (wr.drewN q).drewN p) := fun q => by
          rw [HP.out]
          exact refCommon_key ((((HL.out.here HBE.out).ok x (List.mem_of_getElem? hx)).k.at (Nat.le_refl _)).draws q) (((HKI.out wr HBE.out).at HBE.out.size).draws q)
        clear he f1 f2 hK hk0 hj hx
        go_upto_region 10 with fail
        go_quiet (first
          | (go_at_call 59; refine (HCO.out _).mono ?_; rintro r' w'' ⟨rfl, p, rfl⟩; exact ⟨rfl, _, draws_add _ _ _⟩))
        go_upto_region 11 with fail
        obtain ⟨w5, hw5⟩ : ∃ w5, w5 = wr.drewN nq := ⟨_, rfl⟩
        have HB5 : Hid (Below w.heap.size w w5) := by rw [hw5]; exact below_draws HBE.out _
        have HV5 : Hid (NewKey w.heap.size w5 u7 T) := by rw [hw5]; exact HV.out.draws _
        rw [← hw5]
        clear hw5 k0 k1 m0 m1
      all_goals
        obtain ⟨k0, k1⟩ := HCE.out w5 HB5.out
        go_wp2_with fail
        refine (refTwo_any HV5.out (by omega) hK1 HB5.out.size).mono ?_
        rintro r w6 ⟨v6, rfl, hv6, hk6⟩
        have HV6 : Hid _ := hv6
        have HB6 : Hid (Below w.heap.size w w6) := HB5.out.trans hk6.low
        clear hv6 hk6 k0 k1
        obtain ⟨k0, k1⟩ := HCE.out w6 HB6.out
        go_wp2_with fail
        refine (refTwo_any HV6.out (by simp [two]; omega) hK2 HB6.out.size).mono ?_
        rintro r w7 ⟨v7, rfl, hv7, hk7⟩
        have HV7 : Hid _ := hv7
        have HB7 : Hid (Below w.heap.size w w7) := HB6.out.trans hk7.low
        clear hv7 hk7 k0 k1
        obtain ⟨k0, k1⟩ := HCE.out w7 HB7.out
        go_wp2_with fail
        refine (refTwo_any HV7.out (by simp [two]; omega) hK3 HB7.out.size).mono ?_
        rintro r w8 ⟨v8, rfl, hv8, hk8⟩
        have HV8 : Hid _ := hv8
        have HB8 : Hid (Below w.heap.size w w8) := HB7.out.trans hk8.low
        clear hv8 hk8 k0 k1
        obtain ⟨k0, k1⟩ := HCE.out w8 HB8.out
        have HD8 : Hid _ := HD.out w8 HB8.out
        rcases Decidable.em (c1 = K) with hcK | hcK
      all_goals
        go_wp2_with (first
          | (at_builtin; refine wpList_append_key rfl _ _ rfl w.heap.size v8 _ _ _ rfl HV8.out rfl (by first | exact HD8.out.1 hcK | exact HD8.out.2 _ hcK | exact HD8.out.2 _ (by first | trivial | rfl)) (by simp [two]; omega) HB8.out.size ?_
             intro v9 w9 hv9 hk9
             have HV9 : Hid _ := hv9
             have HB9 : Hid (Below w.heap.size w w9) := HB8.out.trans hk9.low
             clear hv9 hk9 k0 k1
             obtain ⟨k0, k1⟩ := HCE.out w9 HB9.out)
          | (at_builtin; refine wpList_append_key rfl _ _ rfl w.heap.size v9 _ _ e.e.v rfl HV9.out rfl ((HVI.out _ HB9.out).at HB9.out.size) (by simp [two]; omega) HB9.out.size ?_
             intro v10 w10 hv10 hk10
             have HV10 : Hid _ := hv10
             have HB10 : Hid (Below w.heap.size w w10) := HB9.out.trans hk10.low
             clear hv10 hk10 k0 k1))
        exact ⟨⟨k + 1, by omega, by go_num, by rw [HST.out]; exact HV10.out, HB10.out⟩, by simp [intOf]; omega⟩
    · have hzl : ¬ (k : Int) < (L.length : Int) := by omega
      have HE : Hid ((L.map It.e).take k = L.map It.e) := List.take_of_length_le (by simp; omega)
      have HR : Hid (NewKey w.heap.size wr u7 (encE (L.map It.e))) := by
        have := HV.out
        rw [HE.out] at this
        unfold encE Hid
        rw [List.length_map]
        exact this
      go_wp2
      go_ret2
      exact ⟨_, rfl, HR.out, HBE.out⟩
end Go.Proofs.Ytgifnaahahfhbaa
