/- The law PolicyRound, walked. -/
import Derived.Test.YtejenfcfngjaaaaShown
import Derived.Test.YtejenfcfngjaaaaRoundP
import Derived.Test.YtejenfcfngjaaaaArgs
namespace Go.Proofs.Ytejenfcfngjaaaa
open Go.RowKit

/-- A chooser of the law's own. -/
structure Own (w wr : World) (b : Nat) (v : Value) (c : Ch) : Prop where
  at_ : ChAt w.heap.size wr b v c
  low : Below w.heap.size w wr
theorem Own.mk' {w wr w' : World} {b : Nat} {v : Value} {c c' : Ch} (h : Own w wr b v c) (h1 : ChAt w.heap.size w' b v c') (hk : Kept (fun k => k = b) wr w') : Own w w' b v c' :=
  ⟨h1, Kept.below h.low hk h.low.size (fun i e => by rw [e]; exact h.at_.low)⟩
theorem kvs_cell {w : World} {a : Option Addr} {c i : Nat} {L : List Kv} {o : Kv} (h : KvsIn w (.slice a L.length c) L) (hi : L[i]? = some o) : ∃ g off, a = some ⟨g, off, none⟩ ∧ g < w.heap.size ∧ KvIn w g (off + i * 2) o := by
  obtain ⟨⟨a', c', e, h1⟩, _⟩ := h
  cases e
  exact h1 i o hi
theorem Own.set {w wr : World} {b g : Nat} {v : Value} {c : Ch} (h : Own w wr b v c) (hg : w.heap.size ≤ g) (hb : b ≠ g) (hv : ∀ k, v.ownBlock = some k → k < g) (i : Nat) (x : Value) : Own w (wr.setCell ⟨g, i, none⟩ x) b v c :=
  ⟨⟨by have k := (setCell_kept (w := wr) (b := g) (i := i) x).block b h.at_.lt hb; rw [k]; exact h.at_.cells, own_kept h.at_.row (setCell_kept _) (fun k hk e => by have := hv k hk; omega), h.at_.low, h.at_.ok⟩, h.low.setCell hg _⟩
theorem round_ans {c : Ch} {W : List Int} {p t : Nat} (hk : c.kind = 2) (hC : mayI W W.length ≠ []) (hn : nextOf (mayI W W.length) c.last = roundAt (mayI W W.length) p t) :
    ansI c W = roundAt (mayI W W.length) p t ∧ ansE W = 0 ∧ (nextC c W).kind = 2 ∧ (nextC c W).count = c.count + 1 ∧ nextOf (mayI W W.length) (nextC c W).last = roundAt (mayI W W.length) p (t + 1) := by
  have e : c.chosen W (mayI W W.length) = roundAt (mayI W W.length) p t := by unfold Ch.chosen; rw [if_pos hk, hn]
  unfold ansI ansE nextC
  rw [if_neg hC, if_neg hC, if_neg hC]
  refine ⟨e, rfl, hk, rfl, ?_⟩
  show nextOf _ (c.chosen W _) = _
  rw [e, round_next hC (mayI_rise _ _)]
set_option maxHeartbeats 1600000 in
set_option maxRecDepth 100000 in
theorem policyRound_any {w : World} {v0 v1 : Value} {W : List Int} {L : List Kv} (hW : IntsIn w v0 W) (hL : KvsIn w v1 L) :
    Calls Try.prog 5 #[v0, v1] w fun e w' => e = .returned (.bool true) ∧ Below w.heap.size w w' := by
  have HSH := shown_any w
  obtain ⟨a0, c0, rfl⟩ := hW.row.form
  obtain ⟨⟨a1, c1, rfl, _⟩, hLs⟩ := id hL
  have HW : Hid (IntsIn w (.slice a0 W.length c0) W) := hW
  have HL : Hid (KvsIn w (.slice a1 L.length c1) L) := hL
  have hsz := hW.short
  clear hW hL
  by_cases hbig : (W.length : Int) > 46340
  · go_enter Try.func5, Try.ntmps5
    go_wp2_with (go_at_call 7; refine HSH.mono ?_; rintro e w1 ⟨rfl, hb⟩; have HB : Hid _ := hb; clear hb)
    go_ret
    exact ⟨rfl, HB.out⟩
  · go_enter Try.func5, Try.ntmps5
    go_wp2_with fail
    refine HSH.mono ?_
    rintro e w1 ⟨rfl, hb⟩
    have HB1 : Hid _ := hb
    have HN := new_any (w := w1) (kind := 2) (pv := .slice none 0 0) (picks := []) (RowAt.own (World.ownsRow_nil w1 0 3 1)) (by simp)
    clear hb HSH
    go_wp2_with fail
    refine HN.mono ?_
    rintro e w2 ⟨b, pv, rfl, hb, hc⟩
    have hc1 := hc rfl
    rw [show okP 2 [] = true from rfl, show polE 2 [] = 0 from rfl, show ptrIf true b = .pointer (some ⟨b, 0, none⟩) from rfl]
    have HO : Hid (Own w w2 b pv ⟨2, [], -1, 0⟩) := by
      have hlow := HB1.out.size
      exact ⟨⟨hc1.cells, own_mono hc1.row hlow, Nat.le_trans hlow hc1.low, hc1.ok⟩, HB1.out.trans (hb.mono hlow)⟩
    clear hc hb HN hc1
    go_wp2_with fail
    go_loopw [8] (fun i wr => ∃ (k : Nat) (c : Ch), k ≤ L.length ∧ i = .int .i64 (k : Int) ∧ Own w wr b pv c ∧ c.count ≤ k ∧ c.kind = 2) (fun i _ => L.length - (intOf i).toNat)
    case atStart => exact ⟨0, _, Nat.zero_le _, rfl, HO.out, Nat.le_refl _, rfl⟩
    case round =>
      obtain ⟨k, c, hk, rfl, ho, hcn, hkd⟩ := hrel
      have HOW : Hid _ := ho
      have HKD : Hid _ := hkd
      by_cases hlt : k < L.length
      · have hltz : (k : Int) < (L.length : Int) := by omega
        obtain ⟨o, hoo⟩ : ∃ o, L[k]? = some o := ⟨_, List.getElem?_eq_getElem hlt⟩
        obtain ⟨g, off, rfl, hg, hkv⟩ := kvs_cell (HL.out.here ho.low) hoo
        have d1 := hkv.c1
        have HC := choose_any ho.at_ hkv.row.row (by have := hkv.row.short; omega) (by omega)
        obtain ⟨ao, co, eo⟩ := hkv.row.row.form
        rw [eo] at d1 HC
        have HCN : Hid (c.count ≤ k) := hcn
        clear ho hkv hoo hkd hcn eo
        go_wp2_with fail
        refine Calls.mono HC ?_
        rintro e w3 ⟨rfl, hc3, hk3⟩
        have HO3 : Hid _ := HOW.out.mk' hc3 hk3
        have HC3 : Hid ((nextC c o.P).count ≤ k + 1 ∧ (nextC c o.P).kind = 2) := by
          unfold nextC
          split
          · exact ⟨Nat.le_succ_of_le HCN.out, HKD.out⟩
          · exact ⟨Nat.succ_le_succ HCN.out, HKD.out⟩
        clear hc3 hk3 HC
        go_wp2_with fail
        exact ⟨⟨k + 1, _, by omega, by go_num, HO3.out, HC3.out.1, HC3.out.2⟩, by simp [intOf]; omega⟩
      · have hltz : ¬ (k : Int) < (L.length : Int) := by omega
        have HCN : Hid (c.count ≤ 4398046511104) := by have := HL.out.short; rw [Hid]; omega
        clear ho hcn hkd
        obtain ⟨wl, rfl⟩ : ∃ wl, wl = wr := ⟨_, rfl⟩
        go_wp2_with fail
        go_loop [9, 10] (fun m i => ∃ j : Nat, j ≤ W.length ∧ i = .int .i64 (j : Int) ∧ m = .int .i64 ((mayI W j).length : Int)) (fun _ i => W.length - (intOf i).toNat)
        case atStart => exact ⟨0, Nat.zero_le _, rfl, rfl⟩
        case round =>
          obtain ⟨j, hj, rfl, rfl⟩ := hrel
          have hml := mayI_len W j
          by_cases hlt2 : j < W.length
          · have hltz2 : (j : Int) < (W.length : Int) := by omega
            obtain ⟨y, hy⟩ : ∃ y, W[j]? = some y := ⟨_, List.getElem?_eq_getElem hlt2⟩
            obtain ⟨g, off, rfl, hg, k0⟩ := ints_cell (HW.out.here HOW.out.low).row hy
            by_cases hp : y > 0
            · have HTK : Hid (mayI W (j + 1) = mayI W j ++ [(j : Int)]) := mayI_yes hy hp
              clear hy
              go_wp2_with fail
              exact ⟨⟨j + 1, by omega, by go_num, by rw [HTK.out, List.length_append]; go_num⟩, by simp [intOf]; omega⟩
            · have HTK : Hid (mayI W (j + 1) = mayI W j) := mayI_no hy hp
              clear hy
              go_wp2_with fail
              exact ⟨⟨j + 1, by omega, by go_num, by rw [HTK.out]⟩, by simp [intOf]; omega⟩
          · have hltz2 : ¬ (j : Int) < (W.length : Int) := by omega
            have HJ : Hid (j = W.length) := by rw [Hid]; omega
            obtain ⟨M, hM⟩ : ∃ M, M = (mayI W j).length := ⟨_, rfl⟩
            rw [← hM]
            have HM : Hid (M = (mayI W W.length).length) := by rw [Hid, hM, HJ.out]
            have hMW : M ≤ W.length := by rw [HM.out]; exact mayI_len _ _
            obtain ⟨i0, hi, hz0, hz1, hz2⟩ := infoI'
            clear hM hml HJ
            go_wp2_with (at_make
                         refine wpList_make_full _ rfl _ _ 26 rfl w.heap.size 3 i0 (.int .i64 0) 1 Try.underlying26 hi hz0 hz1 _ _ _ _ W.length rfl rfl (by omega) (by omega) (by rw [hz2]; omega) (by unfold maxLen; omega) HOW.out.low.size ?_
                         intro w5 hown hg
                         rw [madeInts] at hown
                         have HR0 : Hid (w5.heap[wl.heap.size]? = some (.cells (List.replicate W.length (Value.int .i64 0)).toArray 3 (0, 0))) := own_full hown
                         have HB5 : Hid (Below wl.heap.size wl w5) := (Below.refl _ _).grown hg (Nat.le_refl _) (fun k h => by cases h)
                         clear hown hg)
            obtain ⟨g, hg⟩ : ∃ g, g = wl.heap.size := ⟨_, rfl⟩
            rw [← hg]
            have HG : Hid (g = wl.heap.size) := hg
            have hR0 : RowI w5 g (List.replicate W.length 0) := by rw [hg]; simpa [RowI, encI] using HR0.out
            have HO5 : Hid (Own w w5 b pv c) := ⟨HOW.out.at_.here HB5.out, HOW.out.low.trans (HB5.out.mono HOW.out.low.size)⟩
            have HV : Hid (∀ k, pv.ownBlock = some k → k < g) := fun k hk => by rw [hg]; exact (own_type HOW.out.at_.row k hk).1
            have HWG : Hid (w.heap.size ≤ g) := by rw [Hid, hg]; exact HOW.out.low.size
            have HBG : Hid (b ≠ g) := fun e => by have := HOW.out.at_.lt; omega
            obtain ⟨p, hp⟩ : ∃ p, mayI W W.length ≠ [] → nextOf (mayI W W.length) c.last = roundAt (mayI W W.length) p 0 := by
              by_cases hC : mayI W W.length = []
              · exact ⟨0, fun h => absurd hC h⟩
              · obtain ⟨p, hp⟩ := round_begin hC c.last
                exact ⟨p, fun _ => hp⟩
            have HP : Hid _ := hp
            have HR5 : Hid _ := hR0
            clear hg hR0 hp HR0
            go_loopw [12] (fun i wr => ∃ (t : Nat) (cc : Ch) (T : List Int), t ≤ M ∧ i = .int .i64 (t : Int) ∧ Own w wr b pv cc ∧ cc.count ≤ 4398046511104 + t ∧ cc.kind = 2 ∧ (mayI W W.length ≠ [] → nextOf (mayI W W.length) cc.last = roundAt (mayI W W.length) p t) ∧ Times (mayI W W.length) p t W.length T ∧ RowI wr g T) (fun i _ => M - (intOf i).toNat)
            case atStart => exact ⟨0, c, _, Nat.zero_le _, rfl, HO5.out, HCN.out, HKD.out, HP.out, Times.zero _ _ _, HR5.out⟩
            case round =>
              obtain ⟨t, cc, T, ht, rfl, ho, hcn, hkd, hnx, htm, hrw⟩ := hrel
              have HO6 : Hid _ := ho
              have HTM : Hid _ := htm
              have HRW : Hid _ := hrw
              have HNX : Hid _ := hnx
              have HKD2 : Hid _ := hkd
              have HCN2 : Hid _ := hcn
              have HCH := choose_any ho.at_ (HW.out.here ho.low).row (by omega) (by have : cc.count ≤ 4398046511104 + t := hcn; omega)
              by_cases hltt : t < M
              · have hlttz : (t : Int) < (M : Int) := by omega
                have hC : mayI W W.length ≠ [] := fun e => by have := HM.out; rw [e] at this; simp at this; omega
                obtain ⟨r1, r2, r3, r4, r5⟩ := round_ans hkd hC (hnx hC)
                obtain ⟨a, ha, hal, hap⟩ := mayI_mem (round_mem hC p t)
                have HA : Hid ((a : Int) = roundAt (mayI W W.length) p t) := ha.symm
                have HS : Hid ((nextC cc W).kind = 2 ∧ (nextC cc W).count = cc.count + 1 ∧ nextOf (mayI W W.length) (nextC cc W).last = roundAt (mayI W W.length) p (t + 1)) := ⟨r3, r4, r5⟩
                obtain ⟨y, hy⟩ : ∃ y, W[a]? = some y := ⟨_, List.getElem?_eq_getElem hal⟩
                have hyp : 0 < y := by rw [List.getD_eq_getElem?_getD, hy] at hap; exact hap
                obtain ⟨x, hx⟩ : ∃ x, T[a]? = some x := ⟨_, List.getElem?_eq_getElem (by rw [htm.len]; exact hal)⟩
                have hx0 : x = 0 := htm.free (mayI_rise _ _) (by rw [← HM.out]; exact hltt) ha.symm hx
                subst hx0
                have HX : Hid (T[a]? = some 0) := hx
                have HY : Hid (W[a]? = some y) := hy
                clear ho hcn hkd hnx htm hrw hC r3 r4 r5 hx hy hap
                go_wp2_with fail
                refine Calls.mono HCH ?_
                rintro e w6 ⟨rfl, hc6, hk6⟩
                rw [r1, r2, ha]
                have ho6 := HO6.out.mk' hc6 hk6
                have hr6 : RowI w6 g T := by unfold RowI; rw [hk6.block g (RowI.lt HRW.out) (fun e => HBG.out e.symm)]; exact HRW.out
                have HO7 : Hid _ := ho6
                have HR7 : Hid _ := hr6
                obtain ⟨gw, ow, ew, _, kw⟩ := ints_cell (HW.out.here ho6.low).row HY.out
                subst ew
                have hcell : w6.cell? ⟨g, a, none⟩ = some (.int .i64 0) := by rw [hr6.cell, HX.out]; rfl
                have hfz : w6.frozen? ⟨g, a, none⟩ = false := row_frozen hr6 a
                have haz : (a : Int) < (W.length : Int) := by omega
                have haz2 : ¬ (a : Int) ≥ (W.length : Int) := by omega
                have haz3 : ¬ (a : Int) < 0 := by omega
                have hyz : ¬ y ≤ 0 := by omega
                clear hc6 hk6 ho6 hr6 HCH r1 r2 ha
                go_wp2_with fail
                exact ⟨⟨t + 1, _, T.set a 1, by omega, by go_num, HO7.out.set HWG.out HBG.out HV.out _ _, by rw [HS.out.2.1]; have := HCN2.out; omega, HS.out.1, fun _ => HS.out.2.2, HTM.out.next HA.out, RowI.set HR7.out a 1⟩, by simp [intOf]; omega⟩
              · have hlttz : ¬ (t : Int) < (M : Int) := by omega
                clear ho hcn hkd hnx htm hrw
                by_cases hM0 : M = 0
                · have hC : mayI W W.length = [] := List.eq_nil_of_length_eq_zero (by rw [← HM.out]; exact hM0)
                  have hE : ansE W = 162 := by unfold ansE; rw [if_pos hC]
                  subst hM0
                  clear hC
                  go_wp2_with fail
                  refine Calls.mono HCH ?_
                  rintro e w6 ⟨rfl, hc6, hk6⟩
                  rw [hE]
                  have HO7 : Hid _ := HO6.out.mk' hc6 hk6
                  clear hc6 hk6 HCH hE
                  go_wp2_with fail
                  go_ret
                  exact ⟨rfl, HO7.out.low⟩
                · have hC : mayI W W.length ≠ [] := fun e => hM0 (by rw [HM.out, e]; rfl)
                  have hE : ansE W = 0 := by unfold ansE; rw [if_neg hC]
                  have hMz : (M : Int) > 0 := by omega
                  have hMz2 : ((M : Int) == 0) = false := by rw [beq_eq_false_iff_ne]; omega
                  clear hC hM0
                  go_wp2_with fail
                  refine Calls.mono HCH ?_
                  rintro e w6 ⟨rfl, hc6, hk6⟩
                  rw [hE]
                  have HO7 : Hid _ := HO6.out.mk' hc6 hk6
                  clear hc6 hk6 HCH hE
                  go_wp2_with fail
                  go_ret
                  exact ⟨rfl, HO7.out.low⟩
end Go.Proofs.Ytejenfcfngjaaaa
