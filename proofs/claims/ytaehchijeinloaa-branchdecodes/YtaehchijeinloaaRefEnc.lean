/- Encode of banyanref06. -/
import Derived.Test.YtaehchijeinloaaRefCheck
import Derived.Test.YtaehchijeinloaaEnc
namespace Go.Proofs.Ytaehchijeinloaa
open Go.RowKit

theorem lit2 {w : World} {x y : Int} {p q : UInt8} (hx : x = (p.toNat : Int)) (hy : y = (q.toNat : Int)) : KeyAt (w.alloc (.cells #[.int .u8 x, .int .u8 y] 5)) (.slice (some ⟨w.heap.size, 0, none⟩) 2 2) [p, q] := by
  subst hx hy
  refine ⟨⟨_, 2, rfl, fun j c hj => ⟨w.heap.size, 0, rfl, by simp, ?_⟩, Nat.le_refl _, fun h => by cases h⟩, by simp⟩
  rw [row_cell (heap_alloc_last _ _)]
  match j, hj with
  | 0, hj => simp at hj; subst hj; rfl
  | 1, hj => simp at hj; subst hj; rfl
  | j + 2, hj => simp at hj
set_option maxHeartbeats 800000 in
set_option maxRecDepth 100000 in
theorem refTwo_any {base : Nat} {w : World} {v : Value} {ks : Key} {n : Nat} (h : NewKey base w v ks) (hs : ks.length + 4 ≤ 140737488355328) (hn : n < 65536) (hb : base ≤ w.heap.size) :
    Calls Try.prog 37 #[v, .int .i64 n] w fun r w' => ∃ v', r = .returned v' ∧ NewKey base w' v' (ks ++ two n) ∧ Keeps base w w' := by
  have hv1 : v.oneCell' = true := key_one' h
  have HV : Hid (NewKey base w v ks) := h
  clear h
  go_enter Try.func37, Try.ntmps37
  go_wp2_with (at_builtin; go_loud (
    refine wpList_append_key rfl _ _ rfl base _ _ ks [UInt8.ofNat (n / 256), UInt8.ofNat (n % 256)] rfl (HV.out.here (below_new _ _)) rfl (lit2 (by rw [UInt8.toNat_ofNat']; omega) (by rw [UInt8.toNat_ofNat']; omega)) (by simp; omega) (by simp; omega) ?_
    intro v' w' hk hkp
    have HK : Hid (NewKey base w' v' (ks ++ two n)) := hk
    have HKP : Hid (Keeps base w w') := (Keeps.of (below_new _ _) hb).trans hkp
    clear hk hkp))
  go_ret
  exact ⟨_, rfl, HK.out, HKP.out⟩
set_option maxHeartbeats 800000 in
set_option maxRecDepth 100000 in
theorem refFour_any {base : Nat} {w : World} {v : Value} {ks : Key} {n : Nat} (h : NewKey base w v ks) (hs : ks.length + 8 ≤ 140737488355328) (hn : n < 4294967296) (hb : base ≤ w.heap.size) :
    Calls Try.prog 38 #[v, .int .i64 n] w fun r w' => ∃ v', r = .returned v' ∧ NewKey base w' v' (ks ++ four n) ∧ Keeps base w w' := by
  have hv1 : v.oneCell' = true := key_one' h
  have HV : Hid (NewKey base w v ks) := h
  have h1 : (n : Int) / 65536 = ((n / 65536 : Nat) : Int) := by omega
  have h2 : (n : Int) % 65536 = ((n % 65536 : Nat) : Int) := by omega
  have H1 : Hid _ := h1
  have H2 : Hid _ := h2
  clear h h1 h2
  go_enter Try.func38, Try.ntmps38
  go_wp2_with fail
  rw [H1.out]
  refine (refTwo_any (n := n / 65536) HV.out (by omega) (by omega) hb).mono ?_
  rintro r w1 ⟨v1, rfl, hv, hk⟩
  have HV1 : Hid (NewKey base w1 v1 (ks ++ two (n / 65536))) := hv
  have HK1 : Hid (Keeps base w w1) := hk
  have hv1' : v1.oneCell' = true := key_one' hv
  clear hv hk
  go_wp2_with fail
  rw [H2.out]
  refine (refTwo_any (n := n % 65536) HV1.out (by rw [List.length_append, two_length]; omega) (by omega) (Nat.le_trans hb HK1.out.low.size)).mono ?_
  rintro r w2 ⟨v2, rfl, hv, hk⟩
  have HV2 : Hid (NewKey base w2 v2 (ks ++ four n)) := by
    rw [List.append_assoc] at hv; exact hv
  have HK2 : Hid (Keeps base w w2) := HK1.out.trans hk
  clear hv hk
  go_wp2
  go_ret
  exact ⟨_, rfl, HV2.out, HK2.out⟩
set_option maxHeartbeats 1600000 in
set_option maxRecDepth 100000 in
theorem refEncode_any {w : World} {v : Value} {ps : List Int} {L : List Kc} {z : Int} (h : KidsAt w.heap.size w v ps L) (hl : Light ps L) :
    Calls Try.prog 14 #[.int .i64 z, v] w fun r w' => ∃ v', r = .returned (.tuple #[v', .int .i64 (checkK z (kd ps L) : Nat)]) ∧ NewKey w.heap.size w' v' (if checkK z (kd ps L) = 0 then encK (kd ps L) else []) ∧ Below w.heap.size w w' := by
  obtain ⟨i0, hi0, hz0, hz1, hz2⟩ := info5'
  obtain ⟨vp, vk, rfl, h1, h2⟩ := h.is
  obtain ⟨a1, c1, rfl⟩ := h1.form
  obtain ⟨a2, c2, rfl⟩ := h2.form
  have hs1 := h1.short
  have hs2 := h2.short
  obtain ⟨W, hW⟩ : ∃ W, W = w.alloc (.cells #[.slice a1 ps.length c1, .slice a2 L.length c2] 26) := ⟨_, rfl⟩
  have HBW : Hid (Below w.heap.size w W) := by rw [hW]; exact below_new _ _
  have HX : Hid (KBox W w.heap.size (.slice a1 ps.length c1) (.slice a2 L.length c2)) := by rw [hW]; exact KBox.new _ _ _
  have HKI : Hid (∀ W', Below W.heap.size W W' → KidsAt W'.heap.size W' (.agg #[.slice a1 ps.length c1, .slice a2 L.length c2]) ps L) := fun W' hb => (KidsAt.here ⟨_, _, rfl, h1, h2⟩ HBW.out).here hb
  have HPI : Hid (IntsAt W.heap.size W (.slice a1 ps.length c1) ps) := h1.here HBW.out
  have HKS : Hid (KeysAt W.heap.size W (.slice a2 L.length c2) L) := h2.here HBW.out
  have HCK : Hid (Calls Try.prog 33 #[.int .i64 z, .agg #[.slice a1 ps.length c1, .slice a2 L.length c2]] W fun r w'' => r = .returned (.int .i64 (checkK z (kd ps L) : Nat)) ∧ Below W.heap.size W w'') := refCheck_any (KidsAt.here ⟨_, _, rfl, h1, h2⟩ HBW.out) hl
  clear h h1 h2
  obtain ⟨k0, k1⟩ := HX.out.cells
  by_cases hc : checkK z (kd ps L) = 0
  · obtain ⟨hlp, hlk, hby, hkl⟩ := check_small hc
    have hpg := (pages_iff.1 (checkK_ok hc).2.2.2.1).1
    have HPG : Hid (∀ p ∈ ps, 2 ≤ p ∧ p ≤ 65535) := hpg
    have HKL : Hid (∀ k ∈ keysOf L, k.length ≤ 256) := hkl
    rw [hc] at HCK ⊢
    simp only [if_true]
    have hlp' : ps.length < 1024 := hlp
    have hlk' : L.length < 1024 := by have : (kd ps L).ks.length = L.length := keysOf_length L; omega
    have HEN : Hid (encK (kd ps L) = two ps.length ++ encP ps ++ encKs (keysOf L)) := rfl
    have HPL : Hid (∀ k, (encP (ps.take k)).length ≤ 4096) := fun k => by
      rw [encP_length, List.length_take]; omega
    have HKSL : Hid (∀ k, (encKs ((keysOf L).take k)).length ≤ 4064) := fun k => by
      rw [encKs_length]
      have h1 : bytesL ((keysOf L).take k) + bytesL ((keysOf L).drop k) = bytesL (keysOf L) := by rw [← bytesL_append, List.take_append_drop]
      have h2 : bytesK (kd ps L) = 2 + 4 * ps.length + bytesL (keysOf L) := rfl
      omega
    clear hc hlp hlk hby hkl hpg
    go_enter Try.func14, Try.ntmps14
    go_wp2_with fail
    rw [← hW]
    clear hW
    refine HCK.out.mono ?_
    rintro r w1 ⟨rfl, hb1⟩
    have HB1 : Hid (Below W.heap.size W w1) := hb1
    obtain ⟨m0, m1⟩ := (HX.out.here hb1).cells
    clear hb1 HCK k0 k1
    go_wp2_with fail
    refine (refTwo_any (base := w1.heap.size) (n := ps.length) (NewKey.nil _ _) (by simp) (by omega) (Nat.le_refl _)).mono ?_
    rintro r w4 ⟨v4, rfl, hv4, hk4⟩
    have HV4 : Hid (NewKey W.heap.size w4 v4 (two ps.length)) := NewKey.mono hv4 HB1.out.size
    have HB4 : Hid (Below W.heap.size W w4) := HB1.out.trans (hk4.low.mono HB1.out.size)
    obtain ⟨q0, q1⟩ := (HX.out.here HB4.out).cells
    clear hv4 hk4 m0 m1 HB1
    go_wp2_with fail
    go_loopw [7, 8] (fun b i wx => ∃ k : Nat, k ≤ ps.length ∧ i = .int .i64 k ∧ NewKey W.heap.size wx b (two ps.length ++ encP (ps.take k)) ∧ Below W.heap.size W wx) (fun _ i _ => ps.length - (intOf i).toNat)
    case atStart => exact ⟨0, by omega, rfl, by simp only [List.take_zero, encP, List.flatMap_nil, List.append_nil]; exact HV4.out, HB4.out⟩
    case round =>
      obtain ⟨k, hk, rfl, hv, hbe⟩ := hrel
      obtain ⟨x0, x1⟩ := (HX.out.here hbe).cells
      have HV : Hid (NewKey W.heap.size wr u7 (two ps.length ++ encP (ps.take k))) := hv
      have HBE : Hid (Below W.heap.size W wr) := hbe
      by_cases hlt : k < ps.length
      · have hzl : (k : Int) < (ps.length : Int) := by omega
        obtain ⟨p, hp⟩ : ∃ p, ps[k]? = some p := ⟨_, List.getElem?_eq_getElem hlt⟩
        obtain ⟨g, off, _, e1, hcell⟩ := (HPI.out.here hbe).cell k p hp
        cases e1
        obtain ⟨n, hn⟩ : ∃ n : Nat, p = (n : Int) := ⟨p.toNat, by have := HPG.out p (List.mem_of_getElem? hp); omega⟩
        have hnb : n < 4294967296 := by have := HPG.out p (List.mem_of_getElem? hp); omega
        have HST : Hid (two ps.length ++ encP (ps.take (k + 1)) = (two ps.length ++ encP (ps.take k)) ++ four n) := by
          rw [Hid, encP_take _ _ _ hp, ← List.append_assoc, hn, Int.toNat_natCast]
        subst hn
        have HLN : Hid ((two ps.length ++ encP (ps.take k)).length ≤ 5000) := by
          have := HPL.out k
          rw [Hid, List.length_append, two_length]; omega
        clear hv hbe hp
        go_wp2_with fail
        refine (refFour_any (n := n) HV.out (by have := HLN.out; omega) hnb HBE.out.size).mono ?_
        rintro r w5 ⟨v5, rfl, hv5, hk5⟩
        have HV5 : Hid (NewKey W.heap.size w5 v5 ((two ps.length ++ encP (ps.take k)) ++ four n)) := hv5
        have HB5 : Hid (Below W.heap.size W w5) := HBE.out.trans hk5.low
        clear hv5 hk5
        go_wp2
        exact ⟨⟨k + 1, by omega, by go_num, by rw [HST.out]; exact HV5.out, HB5.out⟩, by simp [intOf]; omega⟩
      · have hzl : ¬ (k : Int) < (ps.length : Int) := by omega
        have HV5 : Hid (NewKey W.heap.size wr u7 (two ps.length ++ encP ps)) := by
          have := HV.out
          rw [List.take_of_length_le (by omega)] at this
          exact this
        obtain ⟨w5, hw5⟩ : ∃ w5, w5 = wr := ⟨_, rfl⟩
        rw [← hw5] at HV5 HBE x0 x1
        have HLT : Hid ((two ps.length ++ encP ps).length ≤ 5000) := by
          rw [Hid, List.length_append, two_length, encP_length]; omega
        obtain ⟨T, hT⟩ : ∃ T, T = two ps.length ++ encP ps := ⟨_, rfl⟩
        rw [← hT] at HV5 HLT HEN
        rw [← hw5]
        clear hv hbe HV hw5 HPG hT
        go_wp2_with fail
        go_loopw [7, 9] (fun b i wx => ∃ k : Nat, k ≤ L.length ∧ i = .int .i64 k ∧ NewKey W.heap.size wx b (T ++ encKs ((keysOf L).take k)) ∧ Below W.heap.size W wx) (fun _ i _ => L.length - (intOf i).toNat)
        case atStart => exact ⟨0, by omega, rfl, by simp only [List.take_zero, encKs, List.flatMap_nil, List.append_nil]; exact HV5.out, HBE.out⟩
        case round =>
          clear x0 x1
          obtain ⟨j, hj, rfl, hv, hbe⟩ := hrel
          obtain ⟨x0, x1⟩ := (HX.out.here hbe).cells
          have HV : Hid (NewKey W.heap.size wr u7 (T ++ encKs ((keysOf L).take j))) := hv
          have HBR : Hid (Below W.heap.size W wr) := hbe
          by_cases hlt2 : j < L.length
          · have hzl : (j : Int) < (L.length : Int) := by omega
            obtain ⟨e, he⟩ : ∃ e, L[j]? = some e := ⟨_, List.getElem?_eq_getElem hlt2⟩
            have hKr := HKS.out.here hbe
            obtain ⟨g, off, _, e1, hcell⟩ := hKr.cell j e he
            cases e1
            have hok := HKS.out.ok e (List.mem_of_getElem? he)
            obtain ⟨ae, ce, e2⟩ := hok.form
            have HEJ : Hid (L[j]? = some e) := he
            have HE2 : Hid (e.v = .slice ae e.k.length ce) := e2
            rw [e2] at hcell hok
            have HOK : Hid (KeyIn W.heap.size W (.slice ae e.k.length ce) e.k) := hok
            have hlek : e.k.length ≤ 256 := HKL.out e.k (List.mem_of_getElem? (keysOf_get he))
            have HST : Hid (T ++ encKs ((keysOf L).take (j + 1)) = ((T ++ encKs ((keysOf L).take j)) ++ two e.k.length) ++ e.k) := by
              rw [Hid, encKs_take _ _ _ (keysOf_get he)]
              simp only [List.append_assoc]
            have HLN : Hid ((T ++ encKs ((keysOf L).take j)).length ≤ 10000) := by
              have h1 := HKSL.out j
              have h2 := HLT.out
              rw [Hid, List.length_append]; omega
            clear hv hbe hKr hok e2 he
            go_wp2_with fail
            refine (refTwo_any (n := e.k.length) HV.out (by have := HLN.out; omega) (by omega) HBR.out.size).mono ?_
            rintro r w6 ⟨v6, rfl, hv6, hk6⟩
            have HV6 : Hid (NewKey W.heap.size w6 v6 ((T ++ encKs ((keysOf L).take j)) ++ two e.k.length)) := hv6
            have HB6 : Hid (Below W.heap.size W w6) := HBR.out.trans hk6.low
            have HLN6 : Hid (((T ++ encKs ((keysOf L).take j)) ++ two e.k.length).length + e.k.length ≤ 140737488355328) := by
              have := HLN.out
              rw [Hid, List.length_append, two_length]; omega
            clear hv6 hk6 x0 x1 hcell
            obtain ⟨x0, x1⟩ := (HX.out.here HB6.out).cells
            obtain ⟨g', off', _, e1', hcell⟩ := (HKS.out.here HB6.out).cell j e HEJ.out
            cases e1'
            rw [HE2.out] at hcell
            go_wp2_with (at_builtin; refine wpList_append_key rfl _ _ rfl W.heap.size v6 _ _ e.k rfl HV6.out rfl ((HOK.out.below HB6.out).at HB6.out.size) HLN6.out HB6.out.size ?_
                         intro v7 w7 hv7 hk7
                         have HV7 : Hid (NewKey W.heap.size w7 v7 (((T ++ encKs ((keysOf L).take j)) ++ two e.k.length) ++ e.k)) := hv7
                         have HB7 : Hid (Below W.heap.size W w7) := HB6.out.trans hk7.low
                         clear hv7 hk7)
            exact ⟨⟨j + 1, by omega, by go_num, by rw [HST.out]; exact HV7.out, HB7.out⟩, by simp [intOf]; omega⟩
          · have hzl : ¬ (j : Int) < (L.length : Int) := by omega
            have HR : Hid (NewKey W.heap.size wr u7 (encK (kd ps L))) := by
              have := HV.out
              rw [List.take_of_length_le (by rw [keysOf_length]; omega)] at this
              rw [HEN.out]
              exact this
            clear hv hbe HV
            go_wp2
            go_ret2
            exact ⟨_, rfl, HR.out.mono HBW.out.size, HBW.out.trans (HBR.out.mono HBW.out.size)⟩
  · have hcz : ((checkK z (kd ps L) : Int) != 0) = true := by simp; omega
    rw [if_neg hc]
    go_enter Try.func14, Try.ntmps14
    go_wp2_with fail
    rw [← hW]
    clear hW
    refine HCK.out.mono ?_
    rintro r w1 ⟨rfl, hb1⟩
    have HB1 : Hid (Below w.heap.size w w1) := HBW.out.trans (hb1.mono HBW.out.size)
    clear hb1 HCK k0 k1
    go_wp2
    go_ret2
    exact ⟨_, rfl, NewKey.nil _ _, HB1.out⟩
end Go.Proofs.Ytaehchijeinloaa
