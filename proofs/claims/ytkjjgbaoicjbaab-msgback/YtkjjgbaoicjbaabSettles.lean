/- Settle. -/
import Derived.Test.YtkjjgbaoicjbaabNewsM
namespace Go.Proofs.Ytkjjgbaoicjbaab
open Go.RowKit

/-- What Settle gives. -/
structure SettlePost (w : World) (M : List Ms) (r : Ending) (w' : World) : Prop where
  is : ∃ (v : Value) (F : List Mt) (C : List Key), r = .returned v ∧ IsCuts M C ∧ msOf F = settleM M C ∧ NewMsgs w.heap.size w' v F ∧ F.length ≤ M.length ∧ Below w.heap.size w w'
theorem own_bools {w : World} {base g n : Nat} (h : w.ownsRow base 4 1 (.slice (some ⟨g, 0, none⟩) n n) n (List.replicate n (.bool false))) : RowB w g (List.replicate n false) := by
  refine ⟨?_⟩
  obtain ⟨hl, hr⟩ := h
  rcases hr with ⟨e, _⟩ | ⟨g', cap, cur, e, _, hg, _, _, hs, ht⟩
  · cases e
  · cases e
    rw [hg, show cur = (List.replicate n (Value.bool false)).toArray by rw [← ht, List.take_of_length_le (by simp [hs])]]
    simp
theorem keep_setB {w : World} {g B : Nat} {xs : List Bool} (h : RowB w g xs) (hB : B ≤ g) (i : Nat) (v : Value) : Keep 4 B w (w.setCell ⟨g, i, none⟩ v) := keep_set h.row hB v

set_option maxHeartbeats 3200000 in
set_option maxRecDepth 100000 in
theorem settle_any {w : World} {v : Value} {L : List Mt} (hL : MsgsAt w.heap.size w v L) (hlo : ∀ e ∈ L, e.m.lo.length ≤ 4294967296) :
    Calls Try.prog 11 #[v] w fun r w' => SettlePost w (msOf L) r w' := by
  obtain ⟨iO, hiO, hzO0, hzO1, hzO2⟩ := infoO'
  have hsh := hL.short
  obtain ⟨a, c, rfl⟩ := hL.form
  have HL : Hid (MsgsAt w.heap.size w (.slice a L.length c) L) := hL
  have HLO : Hid (∀ e ∈ L, e.m.lo.length ≤ 4294967296) := hlo
  clear hL hlo
  go_enter Try.func11, Try.ntmps11
  go_wp2_with (at_make; refine wpList_make_full _ rfl _ _ 60 rfl w.heap.size 4 iO (.bool false) 1 Try.underlying60 hiO hzO0 hzO1 _ _ _ _ L.length rfl rfl (by omega) (by omega) (by rw [hzO2]; omega) (by unfold maxLen; omega) (Nat.le_refl _) ?_
               intro w0 hown0 hg0
               rw [madeBools] at hown0
               have HO : Hid (RowB w0 w.heap.size (List.replicate L.length false)) := own_bools hown0
               have HB0 : Hid (Below w.heap.size w w0) := (Below.refl _ _).grown hg0 (Nat.le_refl _) (fun k h => by cases h)
               clear hown0 hg0)
  refine (decided_any (HL.out.here HB0.out) HLO.out).mono ?_
  rintro r w1 ⟨cv, D, gl, rfl, hcu, hcv, hck, hgl, hrl, hb1, -⟩
  have HCU : Hid (IsCuts (msOf L) (keysOf D)) := hcu
  have HRL : Hid (RowI w1 gl ((keysOf D).map (lastM (msOf L)))) := hrl
  have hdl : D.length ≤ 140737488355328 := hcv.short
  have HNE : Hid (gl ≠ w.heap.size) := by have := HO.out.lt; rw [Hid]; omega
  have HGL : Hid (w.heap.size ≤ gl) := by have := HO.out.lt; rw [Hid]; omega
  have HO1 : Hid (RowB w1 w.heap.size (marked L.length ((keysOf D).map (lastM (msOf L))) 0)) := by rw [Hid, marked_zero]; exact HO.out.here hb1
  have HB1 : Hid (Below w.heap.size w w1) := HB0.out.trans (hb1.mono HB0.out.size)
  have HSL : Hid (((keysOf D).map (lastM (msOf L))).length = D.length) := by rw [Hid, List.length_map, keysOf_length]
  obtain ⟨ca, cc, hcf⟩ := hcv.form
  rw [hcf]
  obtain ⟨G, hG⟩ : ∃ G, G = w.heap.size := ⟨_, rfl⟩
  rw [← hG] at HO1 HNE
  have HGE : Hid (G = w.heap.size) := hG
  rw [← hG]
  clear hcu hrl hcv hck hgl hb1 hcf HO HB0 hG
  go_wp2_with fail
  go_loopw [21] (fun i wx => ∃ k : Nat, k ≤ D.length ∧ i = .int .i64 k ∧ RowB wx G (marked L.length ((keysOf D).map (lastM (msOf L))) k) ∧ RowI wx gl ((keysOf D).map (lastM (msOf L))) ∧ Below w.heap.size w wx) (fun i _ => D.length - (intOf i).toNat)
  case atStart => exact ⟨0, by omega, rfl, HO1.out, HRL.out, HB1.out⟩
  case round =>
    obtain ⟨k, hk, rfl, hb, hr, hlow⟩ := hrel
    have HB : Hid (RowB wr G (marked L.length ((keysOf D).map (lastM (msOf L))) k)) := hb
    have HR : Hid (RowI wr gl ((keysOf D).map (lastM (msOf L)))) := hr
    have HBE : Hid (Below w.heap.size w wr) := hlow
    clear hb hr hlow HO1 HRL HB1
    by_cases hlt : k < D.length
    · have hz : (k : Int) < (D.length : Int) := by omega
      obtain ⟨x, hx⟩ : ∃ x, ((keysOf D).map (lastM (msOf L)))[k]? = some x := ⟨_, List.getElem?_eq_getElem (by rw [HSL.out]; exact hlt)⟩
      have HX : Hid (((keysOf D).map (lastM (msOf L)))[k]? = some x) := hx
      have hxl : x < L.length := by
        rw [List.getElem?_map] at hx
        cases hk' : (keysOf D)[k]? with
        | none => rw [hk'] at hx; simp at hx
        | some y => rw [hk'] at hx; simp at hx; have := lastM_lt (msOf L) y; rw [msOf_length] at this; omega
      have c1 := HR.out.cell hx
      clear hx
      by_cases hx0 : 0 ≤ x
      · obtain ⟨i, rfl⟩ : ∃ i : Nat, x = (i : Int) := ⟨x.toNat, by omega⟩
        have hil : i < L.length := by omega
        have c2 := HB.out.cell (marked_get (c := k) (S := (keysOf D).map (lastM (msOf L))) hil)
        have o2 := HB.out.open i
        have HN : Hid (RowB (wr.setCell ⟨G, i, none⟩ (.bool true)) G (marked L.length ((keysOf D).map (lastM (msOf L))) (k + 1))) := by rw [Hid, marked_set HX.out]; exact HB.out.set i true
        have HN2 : Hid (RowI (wr.setCell ⟨G, i, none⟩ (.bool true)) gl ((keysOf D).map (lastM (msOf L)))) := HR.out.block (heap_set_other _ HNE.out)
        have HN3 : Hid (Below w.heap.size w (wr.setCell ⟨G, i, none⟩ (.bool true))) := HBE.out.setCell (by rw [HGE.out]; exact Nat.le_refl _) _
        go_wp2
        exact ⟨⟨k + 1, by omega, by go_num, HN.out, HN2.out, HN3.out⟩, by simp [intOf]; omega⟩
      · have HN : Hid (RowB wr G (marked L.length ((keysOf D).map (lastM (msOf L))) (k + 1))) := by rw [Hid, marked_neg HX.out (by omega)]; exact HB.out
        go_wp2
        exact ⟨⟨k + 1, by omega, by go_num, HN.out, HR.out, HBE.out⟩, by simp [intOf]; omega⟩
    · have hz : ¬ (k : Int) < (D.length : Int) := by omega
      have HM : Hid (∀ i, i < L.length → (marked L.length ((keysOf D).map (lastM (msOf L))) k)[i]? = some (decidesM (msOf L) (keysOf D) i)) := fun i hi => by
        rw [marked_get hi, List.take_of_length_le (by rw [HSL.out]; omega)]; rfl
      clear HR
      go_wp2_with fail
      go_loopw [8, 33] (fun l i wx => ∃ (n : Nat) (F : List Mt), n ≤ L.length ∧ i = .int .i64 n ∧ msOf F = settleN (msOf L) (keysOf D) n ∧ F.length ≤ n ∧ NewMsgs w.heap.size wx l F ∧ RowB wx G (marked L.length ((keysOf D).map (lastM (msOf L))) k) ∧ Below w.heap.size w wx) (fun _ i _ => L.length - (intOf i).toNat)
      case atStart => exact ⟨0, [], by omega, rfl, rfl, Nat.le_refl _, NewMsgs.nil _ _, HB.out, HBE.out⟩
      case round =>
        obtain ⟨n, F, hn, rfl, hms, hfn, hnf, hrb, hlow⟩ := hrel
        have HNF : Hid (NewMsgs w.heap.size wr u8 F) := hnf
        have HMS : Hid (msOf F = settleN (msOf L) (keysOf D) n) := hms
        have HRB : Hid (RowB wr G (marked L.length ((keysOf D).map (lastM (msOf L))) k)) := hrb
        have HBX : Hid (Below w.heap.size w wr) := hlow
        obtain ⟨ua, uc, hu⟩ := own_form' hnf.own
        clear hms hnf hrb hlow HB HBE
        subst hu
        by_cases hlt2 : n < L.length
        · have hzl : (n : Int) < (L.length : Int) := by omega
          obtain ⟨e, he⟩ : ∃ e, L[n]? = some e := ⟨_, List.getElem?_eq_getElem hlt2⟩
          have hL := HL.out.here HBX.out
          obtain ⟨g, off, c', e1, k0, k1, k2, k3, k4⟩ := hL.cells n e he
          cases e1
          have HOK : Hid (e.Ok wr.heap.size wr) := hL.ok e (List.mem_of_getElem? he)
          have HST : Hid (settleN (msOf L) (keysOf D) (n + 1) = if decidesM (msOf L) (keysOf D) n then settleN (msOf L) (keysOf D) n ++ [e.m] else settleN (msOf L) (keysOf D) n) := settleN_step (msOf_get he)
          have c1 := HRB.out.cell (HM.out n hlt2)
          obtain ⟨a1, c1', f1⟩ := HOK.out.lo.form
          obtain ⟨a2, c2', f2⟩ := HOK.out.hi.form
          obtain ⟨a3, c3', f3⟩ := HOK.out.va.form
          clear he hL
          obtain ⟨v1, v2, v3, m⟩ := e
          simp only at f1 f2 f3 k0 k1 k2 k3 k4 HST
          subst f1 f2 f3
          obtain ⟨W, hW⟩ : ∃ W, W = wr.alloc (.cells #[.int .u64 (m.st : Int), .int .i64 m.kd, .slice a1 m.lo.length c1', .slice a2 m.hi.length c2', .slice a3 m.va.length c3'] 38) := ⟨_, rfl⟩
          have HWB : Hid (Below wr.heap.size wr W) := by rw [hW]; exact below_new _ _
          have HWX : Hid (Below w.heap.size w W) := HBX.out.trans (HWB.out.mono HBX.out.size)
          have HCO := copied_any (HOK.out.here HWB.out)
          unfold Mt.val at HCO
          simp only at HCO
          have c2 : W.cell? ⟨G, n, none⟩ = some (.bool (decidesM (msOf L) (keysOf D) n)) := (HRB.out.here HWB.out).cell (HM.out n hlt2)
          cases hde : decidesM (msOf L) (keysOf D) n with
          | true =>
            rw [hde, hW] at c2
            clear c1
            have HSN : Hid (settleN (msOf L) (keysOf D) (n + 1) = settleN (msOf L) (keysOf D) n ++ [m]) := by rw [Hid, HST.out, hde]; rfl
            clear hde HST
            go_wp2_with fail
            rw [← hW]
            clear hW
            refine HCO.mono ?_
            rintro r w2 ⟨⟨y1, y2, y3, ym⟩, rfl, hym, hy2, hb2⟩
            simp only at hym
            subst hym
            have HB2 : Hid (Below W.heap.size W w2) := hb2
            have HB3 : Hid (Below w.heap.size w w2) := HWX.out.trans (hb2.mono HWX.out.size)
            obtain ⟨p1, q1, g1⟩ := hy2.lo.in.form
            obtain ⟨p2, q2, g2⟩ := hy2.hi.in.form
            obtain ⟨p3, q3, g3⟩ := hy2.va.in.form
            simp only at g1 g2 g3
            subst g1 g2 g3
            have HY2 : Hid (NewMsg w.heap.size w2 ⟨.slice p1 ym.lo.length q1, .slice p2 ym.hi.length q2, .slice p3 ym.va.length q3, ym⟩) := hy2.mono HWX.out.size
            have HF2 : Hid (NewMsgs w.heap.size w2 (.slice ua F.length uc) F) := (HNF.out.here HWB.out).here hb2
            have HRB2 : Hid (RowB w2 G (marked L.length ((keysOf D).map (lastM (msOf L))) k)) := (HRB.out.here HWB.out).here hb2
            have HL1 := msg_one w2 _ HY2.out.ok
            have HBN : Hid (Below w2.heap.size w2 (w2.alloc (.cells #[.int .u64 (ym.st : Int), .int .i64 ym.kd, .slice p1 ym.lo.length q1, .slice p2 ym.hi.length q2, .slice p3 ym.va.length q3] 38))) := below_new _ _
            have hsz2 := HB3.out.size
            clear hy2 hb2 HCO
            unfold Mt.val
            simp only
            go_wp2_with (at_builtin
                         refine wpList_append_msgs rfl _ _ rfl w.heap.size (.slice ua F.length uc) _ F [⟨.slice p1 ym.lo.length q1, .slice p2 ym.hi.length q2, .slice p3 ym.va.length q3, ym⟩] rfl (HF2.out.here HBN.out).own rfl HL1 (by simp; omega) (by simp; omega) ?_
                         intro v4 w4 ho4 hk4
                         have HF4 : Hid (NewMsgs w.heap.size w4 v4 (F ++ [⟨.slice p1 ym.lo.length q1, .slice p2 ym.hi.length q2, .slice p3 ym.va.length q3, ym⟩])) := (HF2.out.here HBN.out).push (HY2.out.here HBN.out) ho4 hk4
                         have HR4 : Hid (RowB w4 G (marked L.length ((keysOf D).map (lastM (msOf L))) k)) := (HRB2.out.here HBN.out).keep hk4 (by decide)
                         have HB4 : Hid (Below w.heap.size w w4) := (HB3.out.trans (HBN.out.mono HB3.out.size)).trans hk4.low
                         clear ho4 hk4)
            exact ⟨⟨n + 1, _, by omega, by go_num, by rw [HSN.out, ← HMS.out]; simp [msOf], by simp; omega, HF4.out, HR4.out, HB4.out⟩, by simp [intOf]; omega⟩
          | false =>
            rw [hde, hW] at c2
            clear c1
            have HSN : Hid (settleN (msOf L) (keysOf D) (n + 1) = settleN (msOf L) (keysOf D) n) := by rw [Hid, HST.out, hde]; rfl
            clear hde HST HCO
            go_wp2_with fail
            rw [← hW]
            clear hW
            exact ⟨⟨n + 1, F, by omega, by go_num, by rw [HSN.out]; exact HMS.out, by omega, HNF.out.here HWB.out, HRB.out.here HWB.out, HWX.out⟩, by simp [intOf]; omega⟩
        · have hzl : ¬ (n : Int) < (L.length : Int) := by omega
          obtain rfl : n = L.length := by omega
          have HP : Hid (SettlePost w (msOf L) (.returned (.slice ua F.length uc)) wr) := ⟨_, F, keysOf D, rfl, HCU.out, by rw [HMS.out, settleM, msOf_length], HNF.out, by rw [msOf_length]; exact hfn, HBX.out⟩
          go_wp2
          go_ret
          exact HP.out
end Go.Proofs.Ytkjjgbaoicjbaab
