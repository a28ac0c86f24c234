/- MsgForm's walk. -/
import Derived.Test.YtkjjgbaoicjbaaaFormKeys
namespace Go.Proofs.Ytkjjgbaoicjbaaa
open Go.RowKit

set_option maxHeartbeats 6400000 in
set_option maxRecDepth 100000 in
theorem form_walk {w : World} {v u : Value} {L : List Mt} {key : Key} (hL : MsgsAt w.heap.size w v L) (hu : KeyAt w u key) :
    Calls Try.prog 5 #[v, u] w fun e w' => e = .returned (.bool true) ∧ Below w.heap.size w w' := by
  obtain ⟨iB, hiB, hzB0, hzB1, hzB2⟩ := infoB'
  have hsh := hL.short
  obtain ⟨a, c, rfl⟩ := hL.form
  obtain ⟨au, cu, e⟩ := hu.in.form
  subst e
  have HL : Hid (MsgsAt w.heap.size w (.slice a L.length c) L) := hL
  have HU : Hid (KeyIn w.heap.size w (.slice au key.length cu) key) := hu.in
  clear hL hu
  go_enter Try.func5, Try.ntmps5
  go_wp2_with fail
  refine (awake_any w).mono ?_
  rintro r w1 ⟨rfl, hb1⟩
  have HB1 : Hid (Below w.heap.size w w1) := hb1
  clear hb1
  go_wp2_with fail
  refine (weights_any (HL.out.here HB1.out)).mono ?_
  rintro r w2 ⟨s, rfl, hs1, hs2, hb2⟩
  have HB2 : Hid (Below w.heap.size w w2) := HB1.out.trans (hb2.mono HB1.out.size)
  clear hb2 HB1
  by_cases hbd : s ≤ 2147483647
  · have hzb : ¬ (2147483647 : Int) < (s : Int) := by omega
    have hss := hs1 hbd
    have HSZ : Hid (∀ e ∈ L, e.m.lo.length ≤ 2147483647 ∧ e.m.hi.length ≤ 2147483647) := fun e he => by
      have h1 := sizes_mem (M := msOf L) (m := e.m) (List.mem_map.2 ⟨e, he, rfl⟩)
      unfold sizeM at h1
      omega
    have hlen : L.length ≤ 200000000 := by
      have := sizes_len (msOf L)
      rw [msOf_length] at this
      omega
    have HME := meaning_any (HL.out.here HB2.out) (fun e he => by have := (HSZ.out e he).1; omega) (by omega)
    clear hs1 hs2 hss
    go_wp2_with fail
    refine HME.mono ?_
    rintro r w3 ⟨pv, F, C, rfl, hcu, hpc, hfl, hpp, hb3⟩
    rw [msOf_length] at hfl
    obtain ⟨pa, pcap, epv⟩ := own_form' hpp.own
    subst epv
    have HCU : Hid (IsCuts (msOf L) C) := hcu
    have HPC : Hid (pcsOf F = piecesM (msOf L) C) := hpc
    have hB23 : w2.heap.size ≤ w3.heap.size := hb3.size
    have HP3 : Hid (Pcs w2.heap.size w3 (.slice pa F.length pcap) F) := hpp
    have HB3 : Hid (Below w.heap.size w w3) := HB2.out.trans (hb3.mono HB2.out.size)
    have HKF : Hid (KeysTo w3 (w3.alloc (.cells #[.slice au key.length cu] 25)) (.slice (some ⟨w3.heap.size, 0, none⟩) 1 1) [⟨.slice au key.length cu, key⟩]) := KeysTo.first ((HU.out.below HB3.out).mono HB3.out.size)
    have HL3 : Hid (MsgsAt w3.heap.size w3 (.slice a L.length c) L) := HL.out.here HB3.out
    clear hcu hpc hpp hb3 HME
    go_wp2_with fail
    go_loopw [7, 8] (fun kv i wx => ∃ (k : Nat) (KL : List Kc), k ≤ L.length ∧ i = .int .i64 (k : Int) ∧ KL.length = 4 * k + 1 ∧ KeysTo w3 wx kv KL) (fun _ i _ => L.length - (intOf i).toNat)
    case atStart => exact ⟨0, _, by omega, rfl, rfl, HKF.out⟩
    case round =>
      obtain ⟨k, KL, hk, rfl, hkl, hkt⟩ := hrel
      have HKT : Hid (KeysTo w3 wr u7 KL) := hkt
      clear hkt HKF
      by_cases hlt : k < L.length
      · have hz : (k : Int) < (L.length : Int) := by omega
        obtain ⟨e, he⟩ : ∃ e, L[k]? = some e := ⟨_, List.getElem?_eq_getElem hlt⟩
        obtain ⟨g, off, c', e1, k0, k1, k2, k3, k4⟩ := HL3.out.cells k e he
        cases e1
        have hok3 := HL3.out.ok e (List.mem_of_getElem? he)
        obtain ⟨b1, d1, f1⟩ := hok3.lo.form
        obtain ⟨b2, d2, f2⟩ := hok3.hi.form
        rw [f1] at k2
        rw [f2] at k3
        obtain ⟨t1, t2⟩ := HSZ.out e (List.mem_of_getElem? he)
        have HK1 : Hid (KeyIn w3.heap.size w3 (.slice b1 e.m.lo.length d1) e.m.lo) := by rw [Hid, ← f1]; exact hok3.lo
        have HK2 : Hid (KeyIn w3.heap.size w3 (.slice b2 e.m.hi.length d2) e.m.hi) := by rw [Hid, ← f2]; exact hok3.hi
        have hgl : g < w3.heap.size := World.block_lt_of_cell? _ _ k2
        have HCE : Hid (∀ W', Below w3.heap.size w3 W' → W'.cell? ⟨g, off + k * 5 + 2, none⟩ = some (.slice b1 e.m.lo.length d1) ∧ W'.cell? ⟨g, off + k * 5 + 3, none⟩ = some (.slice b2 e.m.hi.length d2)) := fun W' hb =>
          ⟨(hb.cell (p := ⟨g, off + k * 5 + 2, none⟩) hgl).trans k2, (hb.cell (p := ⟨g, off + k * 5 + 3, none⟩) hgl).trans k3⟩
        obtain ⟨l2, l3⟩ := HCE.out wr HKT.out.low
        have HLW : Hid (∀ W', Below wr.heap.size wr W' → Below w3.heap.size w3 W') := fun W' hb => HKT.out.low.trans (hb.mono HKT.out.low.size)
        have HN1 : Hid (∀ W', Below wr.heap.size wr W' → Calls Try.prog 12 #[.slice b1 e.m.lo.length d1] W' fun r w' => ∃ v', r = .returned v' ∧ (NewKey W'.heap.size w' v' (e.m.lo ++ [0]) ∧ Below W'.heap.size W' w')) := fun W' hb =>
          next_any ((HK1.out.below (HLW.out W' hb)).at (HLW.out W' hb).size) (by omega)
        have HN2 : Hid (∀ W', Below wr.heap.size wr W' → Calls Try.prog 12 #[.slice b2 e.m.hi.length d2] W' fun r w' => ∃ v', r = .returned v' ∧ (NewKey W'.heap.size w' v' (e.m.hi ++ [0]) ∧ Below W'.heap.size W' w')) := fun W' hb =>
          next_any ((HK2.out.below (HLW.out W' hb)).at (HLW.out W' hb).size) (by omega)
        have HD : Hid (Below wr.heap.size wr wr.drew) := (Below.refl _ _).drew
        obtain ⟨ua, uc, eu⟩ := own_form' HKT.out.own
        subst eu
        have HKL : Hid (KL.length = 4 * k + 1 ∧ k < L.length ∧ L.length ≤ 200000000) := ⟨hkl, hlt, hlen⟩
        clear hok3 f1 f2 he hkl k0 k1 k2 k3 k4
        go_wp2_with fail
        go_region_held_law (fun W' => W'.cell? ⟨g, off + k * 5 + 2, none⟩ = some (.slice b1 e.m.lo.length d1) ∧ W'.cell? ⟨g, off + k * 5 + 3, none⟩ = some (.slice b2 e.m.hi.length d2)) (first | go_keep | (refine ⟨?_, ?_⟩ <;> assumption))
          (first
            | (go_at_call_of 12 (Value.slice b1 e.m.lo.length d1)
               refine (HN1.out _ HD.out).mono ?_
               rintro r w4 ⟨u1, rfl, hk4, hb4⟩
               obtain ⟨r1, n1, q1, y1⟩ : ∃ r n q, u1 = Value.slice r n q := (by obtain ⟨r, q, y⟩ := (NewKey.at hk4).in.form; exact ⟨r, _, q, y⟩)
               subst y1
               have HB4 : Hid (Below wr.heap.size wr w4) := Below.trans HD.out (hb4.mono (Below.size HD.out))
               have HU1 : Hid (NewKey w3.heap.size w4 (.slice r1 n1 q1) (e.m.lo ++ [0])) := hk4.mono (Nat.le_trans HKT.out.low.size (Below.size HD.out))
               obtain ⟨p2, p3⟩ := HCE.out _ (HLW.out _ HB4.out)
               clear hk4 hb4)
            | (go_at_call_of 12 (Value.slice b2 e.m.hi.length d2)
               refine (HN2.out _ HB4.out).mono ?_
               rintro r w5 ⟨u2, rfl, hk5, hb5⟩
               obtain ⟨r2, n2, q2, y2⟩ : ∃ r n q, u2 = Value.slice r n q := (by obtain ⟨r, q, y⟩ := (NewKey.at hk5).in.form; exact ⟨r, _, q, y⟩)
               subst y2
               have HB5 : Hid (Below wr.heap.size wr w5) := Below.trans HB4.out (hb5.mono (Below.size HB4.out))
               have HU2 : Hid (NewKey w3.heap.size w5 (.slice r2 n2 q2) (e.m.hi ++ [0])) := hk5.mono (Nat.le_trans HKT.out.low.size (Below.size HB4.out))
               have HU1' : Hid (NewKey w3.heap.size w5 (.slice r1 n1 q1) (e.m.lo ++ [0])) := HU1.out.here hb5
               obtain ⟨p2, p3⟩ := HCE.out _ (HLW.out _ HB5.out)
               clear hk5 hb5)
            | (refine step_append_lies _ (by rfl) _ _ 29 (by rfl) w3.heap.size 25 iB (.slice none 0 0) 1 24 Try.underlying29 hiB hzB0 hzB1 hzB2 rfl (by decide) (.slice ua KL.length uc) KL.length (KL.map Kc.v) (by simp [Act.eval]) (by exact (HKT.out.here (HB5.out.trans ((below_new _ _).mono HB5.out.size))).own) ⟨w5.heap.size, 0, none⟩ 4 4 [.slice b1 e.m.lo.length d1, .slice b2 e.m.hi.length d2, (.slice r1 n1 q1), (.slice r2 n2 q2)] (by simp [Act.eval]) rfl (by exact news4 w5 _ _ _ _) (by exact one4 HU1'.out HU2.out) (by decide) (by unfold maxLen; have := HKL.out; omega) (by have := HKL.out; omega) (by have := (HLW.out _ HB5.out).size; simp; omega) _ rfl ?_
               intro g6 c6 w6 ho6 hg6 _ _
               have HSN : Hid (KeysTo w3 w6 _ (KL ++ [⟨.slice b1 e.m.lo.length d1, e.m.lo⟩, ⟨.slice b2 e.m.hi.length d2, e.m.hi⟩, ⟨(.slice r1 n1 q1), e.m.lo ++ [0]⟩, ⟨(.slice r2 n2 q2), e.m.hi ++ [0]⟩])) := KeysTo.push (HKT.out.here (HB5.out.trans ((below_new _ _).mono HB5.out.size))) (fun x hx => (by
                 have hb := HLW.out _ (HB5.out.trans ((below_new w5 (.cells #[.slice b1 e.m.lo.length d1, .slice b2 e.m.hi.length d2, (.slice r1 n1 q1), (.slice r2 n2 q2)] 25)).mono HB5.out.size))
                 simp only [List.mem_cons, List.not_mem_nil, or_false] at hx
                 rcases hx with rfl | rfl | rfl | rfl
                 · exact ⟨.inl (HK1.out.below hb)⟩
                 · exact ⟨.inl (HK2.out.below hb)⟩
                 · exact ⟨.inr (HU1'.out.here (below_new _ _))⟩
                 · exact ⟨.inr (HU2.out.here (below_new _ _))⟩)) ho6 hg6
               obtain ⟨p2, p3⟩ := HCE.out _ HSN.out.low
               clear ho6 hg6))
        all_goals
          simp
          go_wp2
          exact ⟨⟨k + 1, _, by omega, by first | rfl | go_num, by simp; have := HKL.out; omega, HSN.out⟩, by simp [intOf]; omega⟩
      · have hz : ¬ (k : Int) < (L.length : Int) := by omega
        obtain ⟨ua, uc, eu⟩ := own_form' HKT.out.own
        subst eu
        have hkl2 : KL.length ≤ 1000000000 := by omega
        obtain ⟨wa, rfl⟩ : ∃ wa, wa = wr := ⟨_, rfl⟩
        have HLA : Hid (Below w3.heap.size w3 wa) := HKT.out.low
        clear hkl hlt hk
        go_wp2_with fail
        clear hz
        go_loopw [9] (fun i wx => ∃ n : Nat, n ≤ KL.length ∧ i = .int .i64 (n : Int) ∧ Below wa.heap.size wa wx) (fun i _ => KL.length - (intOf i).toNat)
        case atStart => exact ⟨0, by omega, rfl, Below.refl _ _⟩
        case round =>
          obtain ⟨n, hn, rfl, hbw⟩ := hrel
          have HBR : Hid (Below wa.heap.size wa wr) := hbw
          have HLR : Hid (Below w3.heap.size w3 wr) := HLA.out.trans (HBR.out.mono HLA.out.size)
          clear hbw
          by_cases hlt : n < KL.length
          · have hz : (n : Int) < (KL.length : Int) := by omega
            obtain ⟨e, he⟩ : ∃ e, KL[n]? = some e := ⟨_, List.getElem?_eq_getElem hlt⟩
            have hkr := HKT.out.here HBR.out
            obtain ⟨g, cg, e1, k0⟩ := hkr.cell he
            cases e1
            have hat := hkr.at he
            obtain ⟨be, ce, fe⟩ := hat.in.form
            rw [fe] at k0 hat
            have HAT : Hid (KeyAt wr (.slice be e.k.length ce) e.k) := hat
            obtain ⟨G, hG⟩ : ∃ G, G = getM (msOf L) e.k := ⟨_, rfl⟩
            have HOF : Hid (ofP (pcsOf F) e.k = ⟨if G.isSome then 1 else 0, (G.getD none).isSome, (G.getD none).getD []⟩) := by rw [Hid, HPC.out, hG]; exact ofP_is HCU.out e.k
            have HGE := get_any (HL3.out.here HLR.out) HAT.out
            rw [← hG] at HGE
            obtain ⟨q, hq⟩ : ∃ q, q = (G.getD none).isSome := ⟨_, rfl⟩
            obtain ⟨y, hy⟩ : ∃ y, y = (G.getD none).getD [] := ⟨_, rfl⟩
            obtain ⟨p, hp⟩ : ∃ p, p = G.isSome := ⟨_, rfl⟩
            rw [← hq, ← hy, ← hp] at HGE HOF
            clear hG hq hy hp hkr hat fe he
            go_wp2_with fail
            refine HGE.mono ?_
            rintro r w5 ⟨v5, rfl, hk5, hb5⟩
            have HB5 : Hid (Below wa.heap.size wa w5) := HBR.out.trans (hb5.mono HBR.out.size)
            have HL5 : Hid (Below w3.heap.size w3 w5) := HLR.out.trans (hb5.mono HLR.out.size)
            obtain ⟨a5, c5, f5⟩ := hk5.at.in.form
            subst f5
            have HK5 : Hid (KeyAt w5 (.slice a5 y.length c5) y) := hk5.at
            have k0' : w5.cell? ⟨g, n, none⟩ = some (.slice be e.k.length ce) := (hb5.cell (p := ⟨g, n, none⟩) (World.block_lt_of_cell? _ _ k0)).trans k0
            have HOA := of_any (HP3.out.here hB23 HL5.out) (Nat.le_trans hB23 HL5.out.size) (HAT.out.here hb5) (by omega)
            clear hk5 hb5 HGE k0
            go_wp2_with fail
            refine HOA.mono ?_
            rintro r w6 ⟨vv, rfl, hk6, hb6⟩
            rw [HOF.out] at hk6 ⊢
            simp only at hk6
            obtain ⟨a6, c6, f6⟩ := hk6.form
            subst f6
            have HB6 : Hid (Below wa.heap.size wa w6) := HB5.out.trans (hb6.mono HB5.out.size)
            have e5 := conv_key (HK5.out.here hb6)
            have e6 := conv_key (hk6.at (Nat.le_trans (Nat.le_trans hB23 HL5.out.size) hb6.size))
            have s1 := strB_same y
            generalize strB y = S at *
            clear HOA hk6 hb6 HK5 k0' HAT HOF
            cases p <;> cases q
            all_goals
              go_wp2
              exact ⟨⟨n + 1, by omega, by go_num, HB6.out⟩, by simp [intOf]; omega⟩
          · have hz : ¬ (n : Int) < (KL.length : Int) := by omega
            obtain ⟨wb, rfl⟩ : ∃ wb, wb = wr := ⟨_, rfl⟩
            have HPB : Hid (∀ W', Below w3.heap.size w3 W' → Pcs w2.heap.size W' (.slice pa F.length pcap) F) := fun W' hb => HP3.out.here hB23 hb
            have HWF : Hid (∀ i (e : Pt), F[i]? = some e → e.p.Wf) := fun i e he => pieces_wf HCU.out e.p (by rw [← HPC.out]; exact List.mem_map.2 ⟨e, List.mem_of_getElem? he, rfl⟩)
            have HLE : Hid (∀ i (e : Pt), F[i]? = some e → e.p.put = true → e.p.k.length ≤ 2147483647) := fun i e he h => by
              obtain ⟨m, hm, h1⟩ := piece_key HCU.out (p := e.p) (by rw [← HPC.out]; exact List.mem_map.2 ⟨e, List.mem_of_getElem? he, rfl⟩) h
              obtain ⟨x, hx, rfl⟩ := List.mem_map.1 hm
              rw [h1]; exact (HSZ.out x hx).1
            have HNE : Hid (∀ i (e e' : Pt), F[i]? = some e → F[i + 1]? = some e' → e.p.fin ≤ e'.p.beg ∧ (e.p.put = false → e'.p.put = false → e.p.fin ≠ e'.p.beg)) := fun i e e' h h' => pieces_next HCU.out (by rw [← HPC.out]; exact pcsOf_get h) (by rw [← HPC.out]; exact pcsOf_get h')
            have HE0 : Hid (KeyAt (wb.alloc (.cells #[] 5)) (.slice (some ⟨wb.heap.size, 0, none⟩) 0 0) []) := (new0 wb).at
            have HBN : Hid (Below w3.heap.size w3 (wb.alloc (.cells #[] 5))) := HLR.out.trans ((below_new _ _).mono HLR.out.size)
            clear hlt hn
            go_wp2_with fail
            clear hz
            go_loopw [16, 17] (fun ev i wx => ∃ (n : Nat) (ek : Key), n ≤ F.length ∧ i = .int .i64 (n : Int) ∧ KeyAt wx ev ek ∧ (∀ m e, n = m + 1 → F[m]? = some e → ek = e.p.fin) ∧ Below w3.heap.size w3 wx) (fun _ i _ => F.length - (intOf i).toNat)
            case atStart => exact ⟨0, [], by omega, rfl, HE0.out, fun m e h => by omega, HBN.out⟩
            case round =>
              obtain ⟨n, ek, hn, rfl, hek, hfin, hbw⟩ := hrel
              have HBR3 : Hid (Below w3.heap.size w3 wr) := hbw
              have HEND : Hid (Below w.heap.size w wr) := HB3.out.trans (hbw.mono HB3.out.size)
              by_cases hlt : n < F.length
              · have hz : (n : Int) < (F.length : Int) := by omega
                obtain ⟨e, he⟩ : ∃ e, F[n]? = some e := ⟨_, List.getElem?_eq_getElem hlt⟩
                have hpc := HPB.out wr hbw
                have hBr : w2.heap.size ≤ wr.heap.size := Nat.le_trans hB23 hbw.size
                have hok := hpc.ok e (List.mem_of_getElem? he)
                obtain ⟨g, cg, e1, hg0, hgc, ⟨cur, hcur⟩, hce⟩ := hpc.cells he
                cases e1
                have hgl : g < wr.heap.size := (Array.getElem?_eq_some_iff.1 hcur).1
                obtain ⟨ak, ck, f1⟩ := hok.k.form
                obtain ⟨av, cv, f2⟩ := hok.v.form
                obtain ⟨al, cl, f3⟩ := hok.lo.form
                obtain ⟨ah, ch, f4⟩ := hok.hi.form
                have HOK : Hid (e.Ok w2.heap.size wr) := hok
                have c0 : wr.cell? ⟨g, n * 6, none⟩ = some (.bool e.p.put) := hce 0 _ rfl
                have c1 : wr.cell? ⟨g, n * 6 + 1, none⟩ = some (.slice ak e.p.k.length ck) := by rw [← f1]; exact hce 1 _ rfl
                have c2 : wr.cell? ⟨g, n * 6 + 2, none⟩ = some (.slice av e.p.v.length cv) := by rw [← f2]; exact hce 2 _ rfl
                have c3 : wr.cell? ⟨g, n * 6 + 3, none⟩ = some (.slice al e.p.lo.length cl) := by rw [← f3]; exact hce 3 _ rfl
                have c4 : wr.cell? ⟨g, n * 6 + 4, none⟩ = some (.slice ah e.p.hi.length ch) := by rw [← f4]; exact hce 4 _ rfl
                have c5 : wr.cell? ⟨g, n * 6 + 5, none⟩ = some (.bool false) := hce 5 _ rfl
                obtain ⟨ae, ce, fe⟩ := hek.in.form
                subst fe
                have hwf := HWF.out n e he
                have HFN : Hid (∀ m e', n = m + 1 → F[m]? = some e' → ek = e'.p.fin) := hfin
                by_cases hput : e.p.put = true
                · obtain ⟨g1, g2⟩ := hwf.put hput
                  have hl3 : e.p.lo.length = 0 := by rw [g1]; rfl
                  have hl4 : e.p.hi.length = 0 := by rw [g2]; rfl
                  rw [hput] at c0
                  rw [hl3] at c3
                  rw [hl4] at c4
                  obtain ⟨W, hW⟩ : ∃ W, W = wr.alloc (.cells #[.bool true, .slice ak e.p.k.length ck, .slice av e.p.v.length cv, .slice al 0 cl, .slice ah 0 ch, .bool false] 52) := ⟨_, rfl⟩
                  have HBW : Hid (Below wr.heap.size wr W) := by rw [hW]; exact below_new _ _
                  have HX : Hid (PcBox W wr.heap.size true (.slice ak e.p.k.length ck) (.slice av e.p.v.length cv) (.slice al 0 cl) (.slice ah 0 ch)) := by rw [hW]; exact PcBox.new _ _ _ _ _ _
                  have HEK : Hid (∀ W', Below W.heap.size W W' → KeyAt W' (.slice ae ek.length ce) ek) := fun W' hb => (hek.here HBW.out).here hb
                  have HW3 : Hid (∀ W', Below W.heap.size W W' → Below w3.heap.size w3 W') := fun W' hb => HBR3.out.trans ((HBW.out.trans (hb.mono HBW.out.size)).mono HBR3.out.size)
                  have HOW : Hid (∀ W', Below W.heap.size W W' → e.Ok w2.heap.size W' ∧ w2.heap.size ≤ W'.heap.size) := fun W' hb => ⟨HOK.out.here hBr (HBW.out.trans (hb.mono HBW.out.size)), Nat.le_trans hBr (HBW.out.trans (hb.mono HBW.out.size)).size⟩
                  have hkl : e.p.k.length ≤ 2147483647 := HLE.out n e he hput
                  have HKB : Hid (∀ W', Below W.heap.size W W' → KeyAt W' (.slice ak e.p.k.length ck) e.p.k) := fun W' hb => by rw [← f1]; exact (HOW.out W' hb).1.k.at (HOW.out W' hb).2
                  have HCP : Hid (∀ W', Below W.heap.size W W' → Calls Try.prog 16 #[.slice ae ek.length ce, .slice ak e.p.k.length ck] W' fun r w' => r = .returned (.int .i64 (cmpK ek e.p.k)) ∧ ∃ q, w' = W'.drewN q) := fun W' hb => compare_key (HEK.out W' hb) (HKB.out W' hb)
                  have HNX : Hid (∀ W', Below W.heap.size W W' → Calls Try.prog 12 #[.slice ak e.p.k.length ck] W' fun r w' => ∃ v', r = .returned v' ∧ NewKey W'.heap.size w' v' (e.p.k ++ [0]) ∧ Below W'.heap.size W' w') := fun W' hb => next_any (HKB.out W' hb) (by omega)
                  have HFI : Hid (e.p.fin = e.p.k ++ [0]) := by unfold Pc.fin; rw [Hid, if_pos hput]
                  have HBE : Hid (e.p.beg = e.p.k) := by unfold Pc.beg; rw [Hid, if_pos hput]
                  have HCM : Hid (∀ m, n = m + 1 → ¬ (0 : Int) < cmpK ek e.p.k) := fun m hm => by
                    subst hm
                    obtain ⟨e', he'⟩ : ∃ e', F[m]? = some e' := ⟨_, List.getElem?_eq_getElem (by omega)⟩
                    have h := (HNE.out m e' e he' he).1
                    rw [← HFN.out m e' rfl he', HBE.out] at h
                    rw [cmpK_gt]
                    grind
                  have HFE : Hid (∀ (m : Nat) (e' : Pt), n + 1 = m + 1 → F[m]? = some e' → e.p.k ++ [0] = e'.p.fin) := fun m e' h h' => by
                    have : m = n := by omega
                    subst this
                    rw [he] at h'
                    cases h'
                    exact HFI.out.symm
                  clear g1 g2 hl3 hl4 hput
                  clear hwf he hek hok hpc hce f1 f2 f3 f4 hcur hg0 hgc hfin hbw
                  by_cases hn0 : n = 0
                  · have hz0 : ¬ (0 : Int) < (n : Int) := by omega
                    clear hn0
                    obtain ⟨x0, x1, x2, x3, x4, x5⟩ := HX.out.cells
                    have HB8 : Hid (Below W.heap.size W W) := Below.refl _ _
                    go_upto_region 22 with fail
                    rw [← hW]
                    clear hW c0 c1 c2 c3 c4 c5
                    go_wp2_with fail
                    refine (HNX.out _ HB8.out).mono ?_
                    rintro r w9 ⟨v9, rfl, hk9, hb9⟩
                    have HB9 : Hid (Below W.heap.size W w9) := HB8.out.trans (hb9.mono HB8.out.size)
                    have HK9 : Hid (KeyAt w9 v9 (e.p.k ++ [0])) := hk9.at
                    clear hk9 hb9
                    go_wp2
                    exact ⟨⟨n + 1, e.p.k ++ [0], by omega, by go_num, HK9.out, HFE.out, HW3.out w9 HB9.out⟩, by simp [intOf]; omega⟩
                  · have hz0 : (0 : Int) < (n : Int) := by omega
                    have hcm := HCM.out (n - 1) (by omega)
                    clear hn0
                    obtain ⟨x0, x1, x2, x3, x4, x5⟩ := HX.out.cells
                    go_upto_region 22 with fail
                    rw [← hW]
                    clear hW c0 c1 c2 c3 c4 c5
                    go_wp2_with fail
                    refine (HCP.out _ (Below.refl _ _)).mono ?_
                    rintro r w8 ⟨rfl, q8, hw8⟩
                    have HB8 : Hid (Below W.heap.size W w8) := by rw [hw8]; exact below_draws (Below.refl _ _) q8
                    clear hw8 x0 x1 x2 x3 x4 x5
                    obtain ⟨x0, x1, x2, x3, x4, x5⟩ := (HX.out.here HB8.out).cells
                    go_wp2_with fail
                    refine (HNX.out _ HB8.out).mono ?_
                    rintro r w9 ⟨v9, rfl, hk9, hb9⟩
                    have HB9 : Hid (Below W.heap.size W w9) := HB8.out.trans (hb9.mono HB8.out.size)
                    have HK9 : Hid (KeyAt w9 v9 (e.p.k ++ [0])) := hk9.at
                    clear hk9 hb9
                    go_wp2
                    exact ⟨⟨n + 1, e.p.k ++ [0], by omega, by go_num, HK9.out, HFE.out, HW3.out w9 HB9.out⟩, by simp [intOf]; omega⟩
                · have hput' : e.p.put = false := by simpa using hput
                  obtain ⟨g1, g2, g3⟩ := hwf.gone hput'
                  have hl1 : e.p.k.length = 0 := by rw [g1]; rfl
                  have hl2 : e.p.v.length = 0 := by rw [g2]; rfl
                  rw [hput'] at c0
                  rw [hl1] at c1
                  rw [hl2] at c2
                  obtain ⟨W, hW⟩ : ∃ W, W = wr.alloc (.cells #[.bool false, .slice ak 0 ck, .slice av 0 cv, .slice al e.p.lo.length cl, .slice ah e.p.hi.length ch, .bool false] 52) := ⟨_, rfl⟩
                  have HBW : Hid (Below wr.heap.size wr W) := by rw [hW]; exact below_new _ _
                  have HX : Hid (PcBox W wr.heap.size false (.slice ak 0 ck) (.slice av 0 cv) (.slice al e.p.lo.length cl) (.slice ah e.p.hi.length ch)) := by rw [hW]; exact PcBox.new _ _ _ _ _ _
                  have HEK : Hid (∀ W', Below W.heap.size W W' → KeyAt W' (.slice ae ek.length ce) ek) := fun W' hb => (hek.here HBW.out).here hb
                  have HW3 : Hid (∀ W', Below W.heap.size W W' → Below w3.heap.size w3 W') := fun W' hb => HBR3.out.trans ((HBW.out.trans (hb.mono HBW.out.size)).mono HBR3.out.size)
                  have HOW : Hid (∀ W', Below W.heap.size W W' → e.Ok w2.heap.size W' ∧ w2.heap.size ≤ W'.heap.size) := fun W' hb => ⟨HOK.out.here hBr (HBW.out.trans (hb.mono HBW.out.size)), Nat.le_trans hBr (HBW.out.trans (hb.mono HBW.out.size)).size⟩
                  have HKL : Hid (∀ W', Below W.heap.size W W' → KeyAt W' (.slice al e.p.lo.length cl) e.p.lo) := fun W' hb => by rw [← f3]; exact (HOW.out W' hb).1.lo.at (HOW.out W' hb).2
                  have HKH : Hid (∀ W', Below W.heap.size W W' → KeyAt W' (.slice ah e.p.hi.length ch) e.p.hi) := fun W' hb => by rw [← f4]; exact (HOW.out W' hb).1.hi.at (HOW.out W' hb).2
                  have HEM : Hid (∀ W', Below W.heap.size W W' → Calls Try.prog 19 #[.agg #[.slice al e.p.lo.length cl, .slice ah e.p.hi.length ch, .bool false]] W' fun r w' => r = .returned (.bool false) ∧ Below W'.heap.size W' w') := fun W' hb => by
                    have h := empty_any (r := ⟨e.p.lo, e.p.hi, false⟩) ⟨_, _, rfl, HKL.out W' hb, HKH.out W' hb⟩
                    rw [show Rg.empty ⟨e.p.lo, e.p.hi, false⟩ = false by unfold Rg.empty; simp; grind] at h
                    exact h
                  have HCP : Hid (∀ W', Below W.heap.size W W' → Calls Try.prog 16 #[.slice ae ek.length ce, .slice al e.p.lo.length cl] W' fun r w' => r = .returned (.int .i64 (cmpK ek e.p.lo)) ∧ ∃ q, w' = W'.drewN q) := fun W' hb => compare_key (HEK.out W' hb) (HKL.out W' hb)
                  have HFI : Hid (e.p.fin = e.p.hi) := by unfold Pc.fin; rw [Hid, if_neg hput]
                  have HBE : Hid (e.p.beg = e.p.lo) := by unfold Pc.beg; rw [Hid, if_neg hput]
                  have HCM : Hid (∀ m e', n = m + 1 → F[m]? = some e' → ¬ (0 : Int) < cmpK ek e.p.lo ∧ (e'.p.put = false → (cmpK ek e.p.lo == 0) = false)) := fun m e' hm he' => by
                    subst hm
                    have h := HNE.out m e' e he' he
                    rw [← HFN.out m e' rfl he', HBE.out] at h
                    refine ⟨by rw [cmpK_gt]; have := h.1; grind, fun h1 => ?_⟩
                    rw [beq_eq_false_iff_ne]
                    exact fun h2 => h.2 h1 hput' (cmpK_eq.1 h2)
                  have HPV : Hid (∀ m e', n = m + 1 → F[m]? = some e' → ∀ W', Below W.heap.size W W' → W'.cell? ⟨g, m * 6, none⟩ = some (.bool e'.p.put)) := fun m e' _ he' W' hb => by
                    obtain ⟨g', cg', e1, _, _, _, hce'⟩ := hpc.cells he'
                    cases e1
                    have hb' := HBW.out.trans (hb.mono HBW.out.size)
                    rw [hb'.cell (p := ⟨g, m * 6, none⟩) hgl]
                    exact hce' 0 _ rfl
                  have HFE : Hid (∀ (m : Nat) (e' : Pt), n + 1 = m + 1 → F[m]? = some e' → e.p.hi = e'.p.fin) := fun m e' h h' => by
                    have : m = n := by omega
                    subst this
                    rw [he] at h'
                    cases h'
                    exact HFI.out.symm
                  clear g1 g2 g3 hl1 hl2 hput hput'
                  clear hwf hek hok hpc hce f1 f2 f3 f4 hcur hg0 hgc hfin hbw
                  by_cases hn0 : n = 0
                  · have hz0 : ¬ (0 : Int) < (n : Int) := by omega
                    clear hn0
                    obtain ⟨x0, x1, x2, x3, x4, x5⟩ := HX.out.cells
                    clear he
                    go_upto_region 22 with fail
                    rw [← hW]
                    clear hW c0 c1 c2 c3 c4 c5
                    go_wp2_with fail
                    refine (HEM.out _ (Below.refl _ _)).mono ?_
                    rintro r w8 ⟨rfl, hb8⟩
                    have HB9 : Hid (Below W.heap.size W w8) := hb8
                    clear hb8 x0 x1 x2 x3 x4 x5
                    obtain ⟨x0, x1, x2, x3, x4, x5⟩ := (HX.out.here HB9.out).cells
                    go_wp2
                    exact ⟨⟨n + 1, e.p.hi, by omega, by go_num, HKH.out _ HB9.out, HFE.out, HW3.out _ HB9.out⟩, by simp [intOf]; omega⟩
                  · have hz0 : (0 : Int) < (n : Int) := by omega
                    obtain ⟨m, hm⟩ : ∃ m, n = m + 1 := ⟨n - 1, by omega⟩
                    have hsub : (n : Int) - 1 = (m : Int) := by omega
                    have hmF : (m : Int) < (F.length : Int) := by omega
                    obtain ⟨e', he'⟩ : ∃ e', F[m]? = some e' := ⟨_, List.getElem?_eq_getElem (by omega)⟩
                    obtain ⟨hc1, hc2⟩ := HCM.out m e' hm he'
                    have HPC' : Hid (∀ W', Below W.heap.size W W' → W'.cell? ⟨g, m * 6, none⟩ = some (.bool e'.p.put)) := HPV.out m e' hm he'
                    obtain ⟨x0, x1, x2, x3, x4, x5⟩ := HX.out.cells
                    clear he he' hm hn0
                    go_upto_region 22 with fail
                    rw [← hW]
                    clear hW c0 c1 c2 c3 c4 c5
                    go_wp2_with fail
                    refine (HEM.out _ (Below.refl _ _)).mono ?_
                    rintro r w8 ⟨rfl, hb8⟩
                    have HB8 : Hid (Below W.heap.size W w8) := hb8
                    clear hb8 x0 x1 x2 x3 x4 x5
                    obtain ⟨x0, x1, x2, x3, x4, x5⟩ := (HX.out.here HB8.out).cells
                    have y0 := HPC'.out _ HB8.out
                    by_cases hpp : e'.p.put = true
                    · rw [hpp] at y0
                      clear hc2
                      go_wp2_with fail
                      refine (HCP.out _ HB8.out).mono ?_
                      rintro r w9 ⟨rfl, q9, hw9⟩
                      have HB9 : Hid (Below W.heap.size W w9) := by rw [hw9]; exact below_draws HB8.out q9
                      clear hw9 x0 x1 x2 x3 x4 x5 y0
                      obtain ⟨x0, x1, x2, x3, x4, x5⟩ := (HX.out.here HB9.out).cells
                      go_wp2
                      exact ⟨⟨n + 1, e.p.hi, by omega, by go_num, HKH.out _ HB9.out, HFE.out, HW3.out _ HB9.out⟩, by simp [intOf]; omega⟩
                    · have hpp' : e'.p.put = false := by simpa using hpp
                      have hc3 := hc2 hpp'
                      rw [hpp'] at y0
                      clear hc2 hpp hpp'
                      go_wp2_with fail
                      refine (HCP.out _ HB8.out).mono ?_
                      rintro r w9 ⟨rfl, q9, hw9⟩
                      have HB9' : Hid (Below W.heap.size W w9) := by rw [hw9]; exact below_draws HB8.out q9
                      clear hw9 x0 x1 x2 x3 x4 x5 y0
                      obtain ⟨x0, x1, x2, x3, x4, x5⟩ := (HX.out.here HB9'.out).cells
                      go_wp2_with fail
                      refine (HCP.out _ HB9'.out).mono ?_
                      rintro r w10 ⟨rfl, q10, hw10⟩
                      have HB9 : Hid (Below W.heap.size W w10) := by rw [hw10]; exact below_draws HB9'.out q10
                      clear hw10 x0 x1 x2 x3 x4 x5
                      obtain ⟨x0, x1, x2, x3, x4, x5⟩ := (HX.out.here HB9.out).cells
                      go_wp2
                      exact ⟨⟨n + 1, e.p.hi, by omega, by go_num, HKH.out _ HB9.out, HFE.out, HW3.out _ HB9.out⟩, by simp [intOf]; omega⟩
              · have hz : ¬ (n : Int) < (F.length : Int) := by omega
                clear hek hfin
                go_wp2
                go_ret
                exact ⟨rfl, HEND.out⟩
  · have hzb : (2147483647 : Int) < (s : Int) := by omega
    go_wp2
    go_ret
    exact ⟨rfl, HB2.out⟩
end Go.Proofs.Ytkjjgbaoicjbaaa
