/- Encode. -/
import Derived.Test.YtaehchijeinloaaCopies
namespace Go.Proofs.Ytaehchijeinloaa
open Go.RowKit

set_option maxHeartbeats 1600000 in
set_option maxRecDepth 100000 in
theorem encode_any {w : World} {v : Value} {ps : List Int} {L : List Kc} {z : Int} (h : KidsAt w.heap.size w v ps L) :
    Calls Try.prog 13 #[.int .i64 z, v] w fun r w' => ∃ v', r = .returned (.tuple #[v', .int .i64 (checkK z (kd ps L) : Nat)]) ∧ NewKey w.heap.size w' v' (if checkK z (kd ps L) = 0 then encK (kd ps L) else []) ∧ Below w.heap.size w w' := by
  obtain ⟨i0, hi0, hz0, hz1, hz2⟩ := info5'
  obtain ⟨vp, vk, rfl, h1, h2⟩ := h.is
  obtain ⟨a1, c1, rfl⟩ := h1.form
  obtain ⟨a2, c2, rfl⟩ := h2.form
  have hs1 := h1.short
  have hs2 := h2.short
  obtain ⟨W, hW⟩ : ∃ W, W = w.alloc (.cells #[.slice a1 ps.length c1, .slice a2 L.length c2] 26) := ⟨_, rfl⟩
  have HBW : Hid (Below w.heap.size w W) := by rw [hW]; exact below_new _ _
  have HX : Hid (KBox W w.heap.size (.slice a1 ps.length c1) (.slice a2 L.length c2)) := by rw [hW]; exact KBox.new _ _ _
  have HKI : Hid (∀ W', Below W.heap.size W W' → KidsAt W'.heap.size W' (.agg #[.slice a1 ps.length c1, .slice a2 L.length c2]) ps L) := fun W' hb => (KidsAt.here ⟨_, _, rfl, h1, h2⟩ HBW.out).here hb
  have HPI : Hid (IntsAt W.heap.size W (.slice a1 ps.length c1) ps) := h1.here HBW.out
  have HKS : Hid (KeysAt W.heap.size W (.slice a2 L.length c2) L) := h2.here HBW.out
  have HCK : Hid (Calls Try.prog 25 #[.int .i64 z, .agg #[.slice a1 ps.length c1, .slice a2 L.length c2]] W fun r w'' => r = .returned (.int .i64 (checkK z (kd ps L) : Nat)) ∧ Below W.heap.size W w'') := check_any (HKI.out W (Below.refl _ _))
  have HBY : Hid (∀ W', Below W.heap.size W W' → Calls Try.prog 28 #[.agg #[.slice a1 ps.length c1, .slice a2 L.length c2]] W' fun r w' => r = .returned (.int .i64 (wrap64 (bytesK (kd ps L)))) ∧ Below W'.heap.size W' w') := fun W' hb => bytes_any (HKI.out W' hb)
  clear h h1 h2
  obtain ⟨k0, k1⟩ := HX.out.cells
  by_cases hc : checkK z (kd ps L) = 0
  · obtain ⟨hlp, hlk, hby, hkl⟩ := check_small hc
    have hpg := (pages_iff.1 (checkK_ok hc).2.2.2.1).1
    have HPG : Hid (∀ p ∈ ps, 2 ≤ p ∧ p ≤ 65535) := hpg
    have HKL : Hid (∀ k ∈ keysOf L, k.length ≤ 256) := hkl
    rw [hc] at HCK ⊢
    simp only [if_true]
    have hlp' : ps.length < 1024 := hlp
    have hlk' : L.length < 1024 := by have : (kd ps L).ks.length = L.length := keysOf_length L; omega
    have HEN : Hid (encK (kd ps L) = two ps.length ++ encP ps ++ encKs (keysOf L)) := rfl
    have HPL : Hid (∀ k, (encP (ps.take k)).length ≤ 4096) := fun k => by
      rw [encP_length, List.length_take]; omega
    have HKSL : Hid (∀ k, (encKs ((keysOf L).take k)).length ≤ 4064) := fun k => by
      rw [encKs_length]
      have h1 : bytesL ((keysOf L).take k) + bytesL ((keysOf L).drop k) = bytesL (keysOf L) := by rw [← bytesL_append, List.take_append_drop]
      have h2 : bytesK (kd ps L) = 2 + 4 * ps.length + bytesL (keysOf L) := rfl
      omega
    obtain ⟨N, hN⟩ : ∃ N, N = bytesK (kd ps L) := ⟨_, rfl⟩
    rw [← hN, wrap_of _ (by omega) (by omega)] at HBY
    have hNs : N ≤ 4064 := by omega
    have HN : Hid _ := hN
    clear hN hc hlp hlk hby hkl hpg
    go_enter Try.func13, Try.ntmps13
    go_wp2_with fail
    rw [← hW]
    clear hW
    refine HCK.out.mono ?_
    rintro r w1 ⟨rfl, hb1⟩
    have HB1 : Hid (Below W.heap.size W w1) := hb1
    obtain ⟨m0, m1⟩ := (HX.out.here hb1).cells
    clear hb1 HCK k0 k1
    go_wp2_with fail
    refine (HBY.out _ HB1.out).mono ?_
    rintro r w2 ⟨rfl, hb2⟩
    have HB2 : Hid (Below W.heap.size W w2) := HB1.out.trans (hb2.mono HB1.out.size)
    obtain ⟨n0, n1⟩ := (HX.out.here HB2.out).cells
    clear hb2 HBY m0 m1
    go_wp2_with (at_make; refine wpList_make_own _ rfl _ _ 27 rfl W.heap.size 5 i0 (.int .u8 0) 1 Try.underlying27 hi0 hz0 hz1 .i64 .i64 (N : Int) N rfl rfl rfl (by rw [hz2]; omega) (by unfold maxLen; omega) HB2.out.size ?_
                 intro w3 ho3 hg3
                 have HV3 : Hid (NewKey W.heap.size w3 (.slice (some ⟨w2.heap.size, 0, none⟩) 0 N) []) := ⟨ho3, by decide⟩
                 have HB3 : Hid (Below W.heap.size W w3) := HB2.out.grown hg3 HB2.out.size (fun k e => by cases e)
                 obtain ⟨p0, p1⟩ := (HX.out.here HB3.out).cells
                 clear ho3 hg3 n0 n1)
    refine (put2_any (n := ps.length) HV3.out (by simp) (by omega) HB3.out.size).mono ?_
    rintro r w4 ⟨v4, rfl, hv4, hk4⟩
    have HV4 : Hid (NewKey W.heap.size w4 v4 (two ps.length)) := hv4
    have HB4 : Hid (Below W.heap.size W w4) := HB3.out.trans hk4.low
    obtain ⟨q0, q1⟩ := (HX.out.here HB4.out).cells
    clear hv4 hk4 p0 p1 HB1 HB2 HB3 HV3
    go_wp2_with fail
    go_loopw [7, 29] (fun b i wx => ∃ k : Nat, k ≤ ps.length ∧ i = .int .i64 k ∧ NewKey W.heap.size wx b (two ps.length ++ encP (ps.take k)) ∧ Below W.heap.size W wx) (fun _ i _ => ps.length - (intOf i).toNat)
    case atStart => exact ⟨0, by omega, rfl, by simp only [List.take_zero, encP, List.flatMap_nil, List.append_nil]; exact HV4.out, HB4.out⟩
    case round =>
      obtain ⟨k, hk, rfl, hv, hbe⟩ := hrel
      have HV : Hid (NewKey W.heap.size wr u7 (two ps.length ++ encP (ps.take k))) := hv
      have HBE : Hid (Below W.heap.size W wr) := hbe
      by_cases hlt : k < ps.length
      · have hzl : (k : Int) < (ps.length : Int) := by omega
        obtain ⟨p, hp⟩ : ∃ p, ps[k]? = some p := ⟨_, List.getElem?_eq_getElem hlt⟩
        obtain ⟨g, off, _, e1, hcell⟩ := (HPI.out.here hbe).cell k p hp
        cases e1
        obtain ⟨n, hn⟩ : ∃ n : Nat, p = (n : Int) := ⟨p.toNat, by have := HPG.out p (List.mem_of_getElem? hp); omega⟩
        have hnb : n < 4294967296 := by have := HPG.out p (List.mem_of_getElem? hp); omega
        have HST : Hid (two ps.length ++ encP (ps.take (k + 1)) = (two ps.length ++ encP (ps.take k)) ++ four n) := by
          rw [Hid, encP_take _ _ _ hp, ← List.append_assoc, hn, Int.toNat_natCast]
        subst hn
        have HLN : Hid ((two ps.length ++ encP (ps.take k)).length ≤ 5000) := by
          have := HPL.out k
          rw [Hid, List.length_append, two_length]; omega
        clear hv hbe hp
        go_wp2_with fail
        refine (put4_any (n := n) HV.out (by have := HLN.out; omega) hnb HBE.out.size).mono ?_
        rintro r w5 ⟨v5, rfl, hv5, hk5⟩
        have HV5 : Hid (NewKey W.heap.size w5 v5 ((two ps.length ++ encP (ps.take k)) ++ four n)) := hv5
        have HB5 : Hid (Below W.heap.size W w5) := HBE.out.trans hk5.low
        clear hv5 hk5
        go_wp2
        exact ⟨⟨k + 1, by omega, by go_num, by rw [HST.out]; exact HV5.out, HB5.out⟩, by simp [intOf]; omega⟩
      · have hzl : ¬ (k : Int) < (ps.length : Int) := by omega
        have HV5 : Hid (NewKey W.heap.size wr u7 (two ps.length ++ encP ps)) := by
          have := HV.out
          rw [List.take_of_length_le (by omega)] at this
          exact this
        obtain ⟨x0, x1⟩ := (HX.out.here HBE.out).cells
        obtain ⟨w5, hw5⟩ : ∃ w5, w5 = wr := ⟨_, rfl⟩
        rw [← hw5] at HV5 HBE x0 x1
        have HLT : Hid ((two ps.length ++ encP ps).length ≤ 5000) := by
          rw [Hid, List.length_append, two_length, encP_length]; omega
        obtain ⟨T, hT⟩ : ∃ T, T = two ps.length ++ encP ps := ⟨_, rfl⟩
        rw [← hT] at HV5 HLT HEN
        rw [← hw5]
        clear hv hbe HV hw5 HPG hT
        go_wp2_with fail
        go_loopw [7, 40] (fun b i wx => ∃ k : Nat, k ≤ L.length ∧ i = .int .i64 k ∧ NewKey W.heap.size wx b (T ++ encKs ((keysOf L).take k)) ∧ Below W.heap.size W wx) (fun _ i _ => L.length - (intOf i).toNat)
        case atStart => exact ⟨0, by omega, rfl, by simp only [List.take_zero, encKs, List.flatMap_nil, List.append_nil]; exact HV5.out, HBE.out⟩
        case round =>
          obtain ⟨j, hj, rfl, hv, hbe⟩ := hrel
          have HV : Hid (NewKey W.heap.size wr u7 (T ++ encKs ((keysOf L).take j))) := hv
          have HBR : Hid (Below W.heap.size W wr) := hbe
          by_cases hlt2 : j < L.length
          · have hzl : (j : Int) < (L.length : Int) := by omega
            obtain ⟨e, he⟩ : ∃ e, L[j]? = some e := ⟨_, List.getElem?_eq_getElem hlt2⟩
            have hKr := HKS.out.here hbe
            obtain ⟨g, off, _, e1, hcell⟩ := hKr.cell j e he
            cases e1
            have hok := HKS.out.ok e (List.mem_of_getElem? he)
            obtain ⟨ae, ce, e2⟩ := hok.form
            rw [e2] at hcell hok
            have HOK : Hid (KeyIn W.heap.size W (.slice ae e.k.length ce) e.k) := hok
            have hlek : e.k.length ≤ 256 := HKL.out e.k (List.mem_of_getElem? (keysOf_get he))
            have HST : Hid (T ++ encKs ((keysOf L).take (j + 1)) = ((T ++ encKs ((keysOf L).take j)) ++ two e.k.length) ++ e.k) := by
              rw [Hid, encKs_take _ _ _ (keysOf_get he)]
              simp only [List.append_assoc]
            have HLN : Hid ((T ++ encKs ((keysOf L).take j)).length ≤ 10000) := by
              have h1 := HKSL.out j
              have h2 := HLT.out
              rw [Hid, List.length_append]; omega
            clear hv hbe hKr hok e2 he
            go_wp2_with fail
            refine (put2_any (n := e.k.length) HV.out (by have := HLN.out; omega) (by omega) HBR.out.size).mono ?_
            rintro r w6 ⟨v6, rfl, hv6, hk6⟩
            have HV6 : Hid (NewKey W.heap.size w6 v6 ((T ++ encKs ((keysOf L).take j)) ++ two e.k.length)) := hv6
            have HB6 : Hid (Below W.heap.size W w6) := HBR.out.trans hk6.low
            have HLN6 : Hid (((T ++ encKs ((keysOf L).take j)) ++ two e.k.length).length + e.k.length ≤ 140737488355328) := by
              have := HLN.out
              rw [Hid, List.length_append, two_length]; omega
            clear hv6 hk6
            go_wp2_with (at_builtin; refine wpList_append_key rfl _ _ rfl W.heap.size v6 _ _ e.k rfl HV6.out rfl ((HOK.out.below HB6.out).at HB6.out.size) HLN6.out HB6.out.size ?_
                         intro v7 w7 hv7 hk7
                         have HV7 : Hid (NewKey W.heap.size w7 v7 (((T ++ encKs ((keysOf L).take j)) ++ two e.k.length) ++ e.k)) := hv7
                         have HB7 : Hid (Below W.heap.size W w7) := HB6.out.trans hk7.low
                         clear hv7 hk7)
            exact ⟨⟨j + 1, by omega, by go_num, by rw [HST.out]; exact HV7.out, HB7.out⟩, by simp [intOf]; omega⟩
          · have hzl : ¬ (j : Int) < (L.length : Int) := by omega
            have HR : Hid (NewKey W.heap.size wr u7 (encK (kd ps L))) := by
              have := HV.out
              rw [List.take_of_length_le (by rw [keysOf_length]; omega)] at this
              rw [HEN.out]
              exact this
            clear hv hbe HV
            go_wp2
            go_ret2
            exact ⟨_, rfl, HR.out.mono HBW.out.size, HBW.out.trans (HBR.out.mono HBW.out.size)⟩
  · have hcz : ((checkK z (kd ps L) : Int) != 0) = true := by simp; omega
    rw [if_neg hc]
    go_enter Try.func13, Try.ntmps13
    go_wp2_with fail
    rw [← hW]
    clear hW
    refine HCK.out.mono ?_
    rintro r w1 ⟨rfl, hb1⟩
    have HB1 : Hid (Below w.heap.size w w1) := HBW.out.trans (hb1.mono HBW.out.size)
    clear hb1 HCK k0 k1
    go_wp2
    go_ret2
    exact ⟨_, rfl, NewKey.nil _ _, HB1.out⟩
end Go.Proofs.Ytaehchijeinloaa
