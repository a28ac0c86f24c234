/- countOf, Encode. -/
import Derived.Test.YtpmcpomomagkhaaCheckN
namespace Go.Proofs.Ytpmcpomomagkhaa
open Go.RowKit

theorem row_put {w : World} {g k : Nat} {bs : Key} {c : UInt8} {X : Int} (h : w.heap[g]? = some (.cells (bs.map encB).toArray 5 (0, 0))) (hX : X = (c.toNat : Int)) : (w.setCell ⟨g, k, none⟩ (.int .u8 X)).heap[g]? = some (.cells ((bs.set k c).map encB).toArray 5 (0, 0)) := by
  rw [heap_set_same _ h, hX, List.map_set]
  simp [encB]
def tailZ (n k : Nat) : Key := (four n).take k ++ List.replicate (4 - k) 0

set_option maxHeartbeats 1600000 in
set_option maxRecDepth 100000 in
theorem countOf_any (w : World) (n : Nat) (hn : n < 4294967296) :
    Calls Try.prog 16 #[.int .i64 (n : Nat)] w fun r w' => ∃ v', r = .returned v' ∧ NewKey w.heap.size w' v' (four n) ∧ Below w.heap.size w w' := by
  obtain ⟨i0, hi, hz0, hz1, hz2⟩ := info5'
  go_enter Try.func16, Try.ntmps16
  go_wp2_with (at_make; refine wpList_make_full _ rfl _ _ 32 rfl w.heap.size 5 i0 (.int .u8 0) 1 Try.underlying32 hi hz0 hz1 _ _ _ _ 4 rfl rfl (by omega) (by omega) (by rw [hz2]; omega) (by unfold maxLen; omega) (Nat.le_refl _) ?_
               intro w0 hown0 hg0
               rw [madeBytes] at hown0
               have HR0 : Hid (w0.heap[w.heap.size]? = some (.cells ((tailZ n 0).map encB).toArray 5 (0, 0))) := own_full hown0
               have HB0 : Hid (Below w.heap.size w w0) := (Below.refl _ _).grown hg0 (Nat.le_refl _) (fun k h => by cases h)
               clear hown0 hg0)
  go_loopw [8] (fun i wx => ∃ k : Nat, k ≤ 4 ∧ i = .int .i64 k ∧ wx.heap[w.heap.size]? = some (.cells ((tailZ n k).map encB).toArray 5 (0, 0)) ∧ Below w.heap.size w wx) (fun i _ => 4 - (intOf i).toNat)
  case atStart => exact ⟨0, by omega, rfl, HR0.out, HB0.out⟩
  case round =>
    obtain ⟨k, hk, rfl, hrow, hbw⟩ := hrel
    have HRW : Hid (wr.heap[w.heap.size]? = some (.cells ((tailZ n k).map encB).toArray 5 (0, 0))) := hrow
    have HBW : Hid (Below w.heap.size w wr) := hbw
    have hfr : ∀ o, wr.frozen? ⟨w.heap.size, o, none⟩ = false := fun o => row_frozen hrow o
    clear hrow hbw
    by_cases hlt : k < 4
    · have hz : (k : Int) < 4 := by omega
      obtain hk0 | hk1 | hk2 | hk3 : k = 0 ∨ k = 1 ∨ k = 2 ∨ k = 3 := by omega
      · subst hk0
        have hce : wr.cell? ⟨w.heap.size, 0, none⟩ = some (.int .u8 0) := by rw [row_cell HRW.out]; rfl
        go_wp2
        exact ⟨⟨0 + 1, by omega, by go_num, row_put (bs := tailZ n 0) (k := 0) (c := UInt8.ofNat (n / 65536 / 256)) HRW.out (by rw [UInt8.toNat_ofNat']; omega), HBW.out.setCell (Nat.le_refl _) _⟩, by simp [intOf]⟩
      · subst hk1
        have hce : wr.cell? ⟨w.heap.size, 1, none⟩ = some (.int .u8 0) := by rw [row_cell HRW.out]; rfl
        go_wp2
        exact ⟨⟨1 + 1, by omega, by go_num, row_put (bs := tailZ n 1) (k := 1) (c := UInt8.ofNat (n / 65536 % 256)) HRW.out (by rw [UInt8.toNat_ofNat']; omega), HBW.out.setCell (Nat.le_refl _) _⟩, by simp [intOf]⟩
      · subst hk2
        have hce : wr.cell? ⟨w.heap.size, 2, none⟩ = some (.int .u8 0) := by rw [row_cell HRW.out]; rfl
        go_wp2
        exact ⟨⟨2 + 1, by omega, by go_num, row_put (bs := tailZ n 2) (k := 2) (c := UInt8.ofNat (n % 65536 / 256)) HRW.out (by rw [UInt8.toNat_ofNat']; omega), HBW.out.setCell (Nat.le_refl _) _⟩, by simp [intOf]⟩
      · subst hk3
        have hce : wr.cell? ⟨w.heap.size, 3, none⟩ = some (.int .u8 0) := by rw [row_cell HRW.out]; rfl
        go_wp2
        exact ⟨⟨3 + 1, by omega, by go_num, row_put (bs := tailZ n 3) (k := 3) (c := UInt8.ofNat (n % 65536 % 256)) HRW.out (by rw [UInt8.toNat_ofNat']; omega), HBW.out.setCell (Nat.le_refl _) _⟩, by simp [intOf]⟩
    · have hz : ¬ (k : Int) < 4 := by omega
      have HK : Hid (NewKey w.heap.size wr (.slice (some ⟨w.heap.size, 0, none⟩) 4 4) (four n)) := by
        have h1 := HRW.out
        rw [show tailZ n k = four n by unfold tailZ; rw [List.take_of_length_le (by rw [four_length]; omega), show 4 - k = 0 by omega]; simp] at h1
        exact ⟨own_block h1 (by simp [four_length]) (Nat.le_refl _) (by decide), by rw [four_length]; decide⟩
      go_wp2
      go_ret
      exact ⟨_, rfl, HK.out, HBW.out⟩

theorem encN_take {M : List Ms} {k : Nat} {m : Ms} (h : M[k]? = some m) : layL (M.take (k + 1)) = layL (M.take k) ++ lay1 m := by
  rw [List.take_add_one, h]; simp [layL]
theorem drop4 (k : Key) : (four 1 ++ k).drop 4 = k := List.drop_left' (four_length _)

set_option maxHeartbeats 3200000 in
set_option maxRecDepth 100000 in
theorem encodeN_any {w : World} {v : Value} {ps : List Int} {K : List Br.Kc} {M : List Mt} {z : Int} (h : NodeAt w.heap.size w v ps K M) (hs : sizesM (msOf M) ≤ 1099511627776) :
    Calls Try.prog 9 #[.int .i64 z, v] w fun r w' => ∃ v', r = .returned (.tuple #[v', .int .i64 (checkN z (nd ps K M) : Nat)]) ∧ NewKey w.heap.size w' v' (if checkN z (nd ps K M) = 0 then encN (nd ps K M) else []) ∧ Below w.heap.size w w' := by
  obtain ⟨vp, vk, vm, rfl, hP, hK, hM⟩ := h.is
  obtain ⟨a1, c1, rfl⟩ := hP.form
  obtain ⟨a2, c2, rfl⟩ := hK.form
  obtain ⟨a3, c3, rfl⟩ := hM.form
  have hsM := hM.short
  obtain ⟨W, hW⟩ : ∃ W, W = w.alloc (.cells #[.slice a1 ps.length c1, .slice a2 K.length c2, .slice a3 M.length c3] 31) := ⟨_, rfl⟩
  have HBW : Hid (Below w.heap.size w W) := by rw [hW]; exact below_new _ _
  have HX : Hid (NBox W w.heap.size (.slice a1 ps.length c1) (.slice a2 K.length c2) (.slice a3 M.length c3)) := by rw [hW]; exact NBox.new _ _ _ _
  have HP : Hid (Br.IntsAt W.heap.size W (.slice a1 ps.length c1) ps) := hP.here HBW.out
  have HK : Hid (Br.KeysAt W.heap.size W (.slice a2 K.length c2) K) := hK.here HBW.out
  have HM : Hid (MsgsAt W.heap.size W (.slice a3 M.length c3) M) := hM.here HBW.out
  have HCK := checkN_any (z := z) (h.here HBW.out) hs
  obtain ⟨x0, x1, x2⟩ := HX.out.cells
  clear h hP hK hM
  by_cases hc : checkN z (nd ps K M) = 0
  · obtain ⟨hk0, _, _, _⟩ := checkN_ok hc
    obtain ⟨hzz, hbn, hln, hmay⟩ := checkN_small hc
    have hln' : M.length ≤ 400 := by have : (nd ps K M).ms.length = M.length := msOf_length M; omega
    have HMAY : Hid (∀ m ∈ msOf M, checkM z [m] = 0) := hmay
    have HK0 : Hid (checkK z (Br.kd ps K) = 0) := hk0
    have HEN : Hid (encN (nd ps K M) = encK (Br.kd ps K) ++ (four M.length ++ layL (msOf M))) := by rw [Hid, encN, show (nd ps K M).ms = msOf M from rfl, msOf_length]; rfl
    have HLE : Hid ((encK (Br.kd ps K)).length ≤ 4064) := by
      rw [Hid, encK_length]
      have : bytesN (nd ps K M) = bytesK (Br.kd ps K) + (4 + sizesM (msOf M)) := rfl
      omega
    have HLL : Hid (∀ k, (layL ((msOf M).take k)).length ≤ 4064) := fun k => by
      have h1 : layL ((msOf M).take k) ++ layL ((msOf M).drop k) = layL (msOf M) := by rw [layL, layL, ← List.flatMap_append, List.take_append_drop]; rfl
      have h2 := congrArg List.length h1
      rw [List.length_append, show (layL (msOf M)).length = sizesM (msOf M) from lay_sizes hmay] at h2
      have : bytesN (nd ps K M) = bytesK (Br.kd ps K) + (4 + sizesM (msOf M)) := rfl
      have h3 : sizesM (nd ps K M).ms = sizesM (msOf M) := rfl
      omega
    rw [hc] at HCK ⊢
    simp only [if_true]
    clear hc hk0 hbn hln hmay hzz
    go_enter Try.func9, Try.ntmps9
    go_wp2_with fail
    rw [← hW]
    clear hW
    refine HCK.mono ?_
    rintro r w1 ⟨rfl, hb1⟩
    have HB1 : Hid (Below W.heap.size W w1) := hb1
    obtain ⟨y0, y1, y2⟩ := (HX.out.here hb1).cells
    clear hb1 HCK x0 x1 x2
    go_wp2_with fail
    refine (Br.encode_any (z := z) (ps := ps) (L := K) ⟨_, _, rfl, HP.out.here HB1.out, HK.out.here HB1.out⟩).mono ?_
    rintro r w2 ⟨v2, rfl, hn2, hb2⟩
    rw [HK0.out, if_pos rfl] at hn2
    rw [HK0.out]
    have HN2 : Hid (NewKey W.heap.size w2 v2 (encK (Br.kd ps K))) := (ofBrNew hn2).mono HB1.out.size
    have HB2 : Hid (Below W.heap.size W w2) := HB1.out.trans (hb2.mono HB1.out.size)
    obtain ⟨z0, z1, z2⟩ := (HX.out.here HB2.out).cells
    obtain ⟨b2, d2, f2⟩ := HN2.out.in.form
    subst f2
    clear hn2 hb2 y0 y1 y2
    go_wp2_with fail
    refine (countOf_any w2 M.length (by omega)).mono ?_
    rintro r w3 ⟨v3, rfl, hn3, hb3⟩
    have HB3 : Hid (Below W.heap.size W w3) := HB2.out.trans (hb3.mono HB2.out.size)
    have HN23 : Hid (NewKey W.heap.size w3 (.slice b2 (encK (Br.kd ps K)).length d2) (encK (Br.kd ps K))) := HN2.out.here hb3
    have HN3 : Hid (KeyAt w3 v3 (four M.length)) := hn3.at
    obtain ⟨b3, d3, f3⟩ := hn3.in.form
    subst f3
    clear hn3 hb3 z0 z1 z2
    go_wp2_with (at_builtin; refine wpList_append_key rfl _ _ rfl W.heap.size _ _ (encK (Br.kd ps K)) (four M.length) rfl HN23.out rfl HN3.out (by have := HLE.out; rw [four_length]; omega) HB3.out.size ?_
                 intro v4 w4 hv4 hk4
                 have HV4 : Hid (NewKey W.heap.size w4 v4 (encK (Br.kd ps K) ++ four M.length)) := hv4
                 have HB4 : Hid (Below W.heap.size W w4) := HB3.out.trans hk4.low
                 obtain ⟨s0, s1, s2⟩ := (HX.out.here HB4.out).cells
                 clear hv4 hk4)
    obtain ⟨T, hT⟩ : ∃ T, T = encK (Br.kd ps K) ++ four M.length := ⟨_, rfl⟩
    have HTL : Hid (T.length ≤ 5000) := by have := HLE.out; rw [Hid, hT, List.length_append, four_length]; omega
    have HEN2 : Hid (encN (nd ps K M) = T ++ layL (msOf M)) := by rw [Hid, HEN.out, hT, List.append_assoc]
    rw [← hT] at HV4
    clear hT HEN HLE
    go_loopw [7, 34] (fun b i wx => ∃ k : Nat, k ≤ M.length ∧ i = .int .i64 k ∧ NewKey W.heap.size wx b (T ++ layL ((msOf M).take k)) ∧ Below W.heap.size W wx) (fun _ i _ => M.length - (intOf i).toNat)
    case atStart => exact ⟨0, by omega, rfl, by simpa [layL] using HV4.out, HB4.out⟩
    case round =>
      obtain ⟨k, hk, rfl, hv, hbe⟩ := hrel
      have HV : Hid (NewKey W.heap.size wr u7 (T ++ layL ((msOf M).take k))) := hv
      have HBE : Hid (Below W.heap.size W wr) := hbe
      obtain ⟨t0, t1, t2⟩ := (HX.out.here hbe).cells
      clear hv hbe HV4 HB4 s0 s1 s2
      by_cases hlt : k < M.length
      · have hzl : (k : Int) < (M.length : Int) := by omega
        obtain ⟨e, he⟩ : ∃ e, M[k]? = some e := ⟨_, List.getElem?_eq_getElem hlt⟩
        obtain ⟨g, off, c', e1, _⟩ := HM.out.cells k e he
        cases e1
        obtain ⟨_, _, ec, hcM, _⟩ := HM.out.is
        cases ec
        have HME : Hid (MsgsAt wr.heap.size wr (.slice (some ⟨g, off + k * 5, none⟩) 1 (c3 - k)) [e]) := by
          have := (HM.out.here HBE.out).part k 1 (by omega)
          rw [part_one he] at this
          exact this
        have hme := HMAY.out e.m (List.mem_of_getElem? (msOf_get he))
        have HSZ : Hid (sizesM (msOf [e]) ≤ 1099511627776) := by
          have h1 := sizesM_sub (List.singleton_sublist.2 (List.mem_of_getElem? (msOf_get he)))
          rw [Hid]; exact Nat.le_trans h1 hs
        have HENC := encode_any (z := z) HME.out HSZ.out
        rw [show msOf [e] = [e.m] from rfl, hme, if_pos rfl, show by4 [e].length ++ layL [e.m] = four 1 ++ lay1 e.m by rw [by4_four _ (by simp)]; simp [layL]] at HENC
        have HST : Hid (T ++ layL ((msOf M).take (k + 1)) = (T ++ layL ((msOf M).take k)) ++ lay1 e.m) := by rw [Hid, encN_take (msOf_get he), List.append_assoc]
        have hkc : (k : Int) + 1 ≤ (c3 : Int) := by omega
        have hkc2 : ¬ c3 = k := by omega
        have hk1 : (k : Int) ≤ (k : Int) + 1 := by omega
        have HLN : Hid ((lay1 e.m).length ≤ 4064) := by
          have h1 := HLL.out (k + 1)
          rw [encN_take (msOf_get he), List.length_append] at h1
          rw [Hid]; omega
        clear he hme
        go_wp2_with fail
        refine HENC.mono ?_
        rintro r w5 ⟨v5, rfl, hn5, hb5⟩
        have HB5 : Hid (Below W.heap.size W w5) := HBE.out.trans (hb5.mono HBE.out.size)
        have HV5 : Hid (NewKey W.heap.size w5 u7 (T ++ layL ((msOf M).take k))) := HV.out.here hb5
        obtain ⟨b5, d5, f5⟩ := hn5.in.form
        subst f5
        have hl5 : (four 1 ++ lay1 e.m).length = (lay1 e.m).length + 4 := by rw [List.length_append, four_length]; omega
        obtain ⟨g5, o5, f5⟩ : ∃ g o, b5 = some ⟨g, o, none⟩ := by
          obtain ⟨⟨_, _, ek, hbb, _⟩, _⟩ := hn5.in
          cases ek
          obtain ⟨g, o, e5, _⟩ := hbb 0 0 rfl
          exact ⟨g, o, e5⟩
        subst f5
        rw [hl5]
        have hd5 : (lay1 e.m).length + 4 ≤ d5 := by
          obtain ⟨⟨_, _, ek, _, hcap, _⟩, _⟩ := hn5.in
          cases ek
          omega
        have hlm : 13 ≤ (lay1 e.m).length := by rw [lay1_length]; omega
        have hd4 : ¬ d5 = 4 := by omega
        have hz4 : (4 : Int) ≤ ((lay1 e.m).length : Int) + 4 := by omega
        have HK5 : Hid (KeyAt w5 (.slice (some ⟨g5, o5 + 4, none⟩) (lay1 e.m).length (d5 - 4)) (lay1 e.m)) := by
          have h1 := (toBrIn hn5.in).drop 4 (by rw [hl5]; omega)
          rw [drop4, hl5, Nat.add_sub_cancel] at h1
          exact (ofBrIn h1).at (Nat.le_refl _)
        obtain ⟨lm, hlm2⟩ : ∃ lm, lm = (lay1 e.m).length := ⟨_, rfl⟩
        rw [← hlm2] at HK5 hd5 hlm hz4 ⊢
        have HLM : Hid _ := hlm2
        have hls : lm ≤ 4064 := by have := HLN.out; omega
        have HTK : Hid ((T ++ layL ((msOf M).take k)).length ≤ 10000) := by have h1 := HTL.out; have h2 := HLL.out k; rw [Hid, List.length_append]; omega
        clear hn5 hb5 hl5 hlm2 t0 t1 t2
        go_wp2_with (at_builtin; refine wpList_append_key rfl _ _ rfl W.heap.size u7 _ (T ++ layL ((msOf M).take k)) (lay1 e.m) rfl HV5.out rfl HK5.out (by have h1 := HTK.out; have h2 := HLN.out; omega) HB5.out.size ?_
                     intro v6 w6 hv6 hk6
                     have HV6 : Hid (NewKey W.heap.size w6 v6 ((T ++ layL ((msOf M).take k)) ++ lay1 e.m)) := hv6
                     have HB6 : Hid (Below W.heap.size W w6) := HB5.out.trans hk6.low
                     clear hv6 hk6)
        exact ⟨⟨k + 1, by omega, by go_num, by rw [HST.out]; exact HV6.out, HB6.out⟩, by simp [intOf]; omega⟩
      · have hzl : ¬ (k : Int) < (M.length : Int) := by omega
        have HR : Hid (NewKey W.heap.size wr u7 (encN (nd ps K M))) := by
          have := HV.out
          rw [List.take_of_length_le (by rw [msOf_length]; omega)] at this
          rw [HEN2.out]
          exact this
        go_wp2
        go_ret2
        exact ⟨_, rfl, HR.out.mono HBW.out.size, HBW.out.trans (HBE.out.mono HBW.out.size)⟩
  · have hcz : (((checkN z (nd ps K M) : Nat) : Int) != 0) = true := by simp; omega
    rw [if_neg hc]
    clear hc
    go_enter Try.func9, Try.ntmps9
    go_wp2_with fail
    rw [← hW]
    clear hW
    refine HCK.mono ?_
    rintro r w1 ⟨rfl, hb1⟩
    have HB1 : Hid (Below w.heap.size w w1) := HBW.out.trans (hb1.mono HBW.out.size)
    clear hb1 HCK
    go_wp2
    go_ret2
    exact ⟨_, rfl, NewKey.nil _ _, HB1.out⟩
end Go.Proofs.Ytpmcpomomagkhaa
