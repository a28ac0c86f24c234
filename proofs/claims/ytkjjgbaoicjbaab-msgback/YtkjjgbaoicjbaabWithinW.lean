/- Within: messages cut to a range. -/
import Derived.Test.YtkjjgbaoicjbaabSettles
import Derived.Test.YtkjjgbaoicjbaabCutTo
namespace Go.Proofs.Ytkjjgbaoicjbaab
open Go.RowKit

/-- What Within gives. -/
structure WithinPost (w : World) (M : List Ms) (r : Rg) (e : Ending) (w' : World) : Prop where
  is : ∃ (v : Value) (F : List Mt), e = .returned v ∧ msOf F = withinM M r ∧ NewMsgs w.heap.size w' v F ∧ F.length ≤ M.length ∧ Below w.heap.size w w'

set_option maxHeartbeats 3200000 in
set_option maxRecDepth 100000 in
theorem within_any {w : World} {v u : Value} {L : List Mt} {r : Rg} (hL : MsgsAt w.heap.size w v L) (hr : RangeAt w u r) :
    Calls Try.prog 12 #[v, u] w fun e w' => WithinPost w (msOf L) r e w' := by
  have hsh := hL.short
  obtain ⟨a, c, rfl⟩ := hL.form
  obtain ⟨u1, u2, rfl, hr1, hr2⟩ := hr.is
  obtain ⟨b1, d1, f1⟩ := hr1.in.form
  obtain ⟨b2, d2, f2⟩ := hr2.in.form
  subst f1 f2
  obtain ⟨W0, hW0⟩ : ∃ W0, W0 = w.alloc (.cells #[.slice b1 r.lo.length d1, .slice b2 r.hi.length d2, .bool r.all] 25) := ⟨_, rfl⟩
  have HB0 : Hid (Below w.heap.size w W0) := by rw [hW0]; exact below_new _ _
  have HX0 : Hid (Box W0 w.heap.size (.slice b1 r.lo.length d1) (.slice b2 r.hi.length d2) (.bool r.all)) := by rw [hW0]; exact Box.new _ _ _ _
  have HL : Hid (MsgsAt w.heap.size w (.slice a L.length c) L) := hL
  have HR : Hid (RangeAt w (.agg #[.slice b1 r.lo.length d1, .slice b2 r.hi.length d2, .bool r.all]) r) := hr
  clear hL hr hr1 hr2
  go_enter Try.func12, Try.ntmps12
  go_upto_region 1 with fail
  rw [← hW0]
  clear hW0
  go_wp2_with fail
  go_loopw [5, 12] (fun l i wx => ∃ (n : Nat) (F : List Mt), n ≤ L.length ∧ i = .int .i64 n ∧ msOf F = withinM ((msOf L).take n) r ∧ F.length ≤ n ∧ NewMsgs w.heap.size wx l F ∧ Box wx w.heap.size (.slice b1 r.lo.length d1) (.slice b2 r.hi.length d2) (.bool r.all) ∧ Below w.heap.size w wx) (fun _ i _ => L.length - (intOf i).toNat)
  case atStart => exact ⟨0, [], by omega, rfl, rfl, Nat.le_refl _, NewMsgs.nil _ _, HX0.out, HB0.out⟩
  case round =>
    obtain ⟨n, F, hn, rfl, hms, hfn, hnf, hbx, hlow⟩ := hrel
    have HNF : Hid (NewMsgs w.heap.size wr u5 F) := hnf
    have HMS : Hid (msOf F = withinM ((msOf L).take n) r) := hms
    have HBX : Hid (Box wr w.heap.size (.slice b1 r.lo.length d1) (.slice b2 r.hi.length d2) (.bool r.all)) := hbx
    have HBE : Hid (Below w.heap.size w wr) := hlow
    obtain ⟨ua, uc, hu⟩ := own_form' hnf.own
    clear hms hnf hbx hlow
    subst hu
    by_cases hlt : n < L.length
    · have hzl : (n : Int) < (L.length : Int) := by omega
      obtain ⟨e, he⟩ : ∃ e, L[n]? = some e := ⟨_, List.getElem?_eq_getElem hlt⟩
      have hL := HL.out.here HBE.out
      obtain ⟨g, off, c', e1, k0, k1, k2, k3, k4⟩ := hL.cells n e he
      cases e1
      have HOK : Hid (e.Ok wr.heap.size wr) := hL.ok e (List.mem_of_getElem? he)
      have HST : Hid (withinM ((msOf L).take (n + 1)) r = withinM ((msOf L).take n) r ++ (cutM r e.m).toList) := withinM_take (msOf_get he)
      obtain ⟨a1, c1', f1⟩ := HOK.out.lo.form
      obtain ⟨a2, c2', f2⟩ := HOK.out.hi.form
      obtain ⟨a3, c3', f3⟩ := HOK.out.va.form
      clear he hL
      obtain ⟨v1, v2, v3, m⟩ := e
      simp only at f1 f2 f3 k0 k1 k2 k3 k4 HST
      subst f1 f2 f3
      obtain ⟨W, hW⟩ : ∃ W, W = wr.alloc (.cells #[.int .u64 (m.st : Int), .int .i64 m.kd, .slice a1 m.lo.length c1', .slice a2 m.hi.length c2', .slice a3 m.va.length c3'] 38) := ⟨_, rfl⟩
      have HWB : Hid (Below wr.heap.size wr W) := by rw [hW]; exact below_new _ _
      have HWX : Hid (Below w.heap.size w W) := HBE.out.trans (HWB.out.mono HBE.out.size)
      have HMB : Hid (MBox W wr.heap.size ⟨.slice a1 m.lo.length c1', .slice a2 m.hi.length c2', .slice a3 m.va.length c3', m⟩) := by rw [hW]; exact ⟨heap_alloc_last _ _⟩
      have HCT := cutTo_any (HOK.out.here HWB.out) (HR.out.here HWX.out)
      unfold Mt.val at HCT
      simp only at HCT
      obtain ⟨x0, x1, x2, x3, x4⟩ := HMB.out.cells
      simp only at x0 x1 x2 x3 x4
      obtain ⟨y0, y1, y2⟩ := (HBX.out.here HWB.out).cells
      go_upto_region 5 with fail
      rw [← hW]
      clear hW k0 k1 k2 k3 k4
      go_wp2_with fail
      refine HCT.mono ?_
      rintro q w2 ⟨⟨z1, z2, z3, zm⟩, rfl, hsome, hnone, hb2⟩
      have HB2 : Hid (Below W.heap.size W w2) := hb2
      have HB3 : Hid (Below w.heap.size w w2) := HWX.out.trans (hb2.mono HWX.out.size)
      have HF2 : Hid (NewMsgs w.heap.size w2 (.slice ua F.length uc) F) := (HNF.out.here HWB.out).here hb2
      have HX2 : Hid (Box w2 w.heap.size (.slice b1 r.lo.length d1) (.slice b2 r.hi.length d2) (.bool r.all)) := (HBX.out.here HWB.out).here hb2
      have hsz2 := HB3.out.size
      clear hb2 HCT x0 x1 x2 x3 x4 y0 y1 y2
      cases hcu : cutM r m with
      | some m' =>
        obtain ⟨hzm, hnm⟩ := hsome m' hcu
        simp only at hzm
        subst hzm
        obtain ⟨p1, q1, g1⟩ := hnm.lo.in.form
        obtain ⟨p2, q2, g2⟩ := hnm.hi.in.form
        obtain ⟨p3, q3, g3⟩ := hnm.va.in.form
        simp only at g1 g2 g3
        subst g1 g2 g3
        have HSN : Hid (withinM ((msOf L).take (n + 1)) r = withinM ((msOf L).take n) r ++ [zm]) := by rw [Hid, HST.out, hcu]; rfl
        obtain ⟨W3, hW3⟩ : ∃ W3, W3 = w2.alloc (.cells #[.int .u64 (zm.st : Int), .int .i64 zm.kd, .slice p1 zm.lo.length q1, .slice p2 zm.hi.length q2, .slice p3 zm.va.length q3] 38) := ⟨_, rfl⟩
        have hbw3 : Below w2.heap.size w2 W3 := by rw [hW3]; exact below_new _ _
        have HB33 : Hid (Below w.heap.size w W3) := HB3.out.trans (hbw3.mono HB3.out.size)
        have HM3 : Hid (MBox W3 w2.heap.size ⟨.slice p1 zm.lo.length q1, .slice p2 zm.hi.length q2, .slice p3 zm.va.length q3, zm⟩) := by rw [hW3]; exact ⟨heap_alloc_last _ _⟩
        have HY3 : Hid (NewMsg w.heap.size W3 ⟨.slice p1 zm.lo.length q1, .slice p2 zm.hi.length q2, .slice p3 zm.va.length q3, zm⟩) := (hnm.mono HWX.out.size).here hbw3
        have HF3 : Hid (NewMsgs w.heap.size W3 (.slice ua F.length uc) F) := HF2.out.here hbw3
        have HX3 : Hid (Box W3 w.heap.size (.slice b1 r.lo.length d1) (.slice b2 r.hi.length d2) (.bool r.all)) := HX2.out.here hbw3
        have HL1 := msg_one W3 _ HY3.out.ok
        have HBN : Hid (Below W3.heap.size W3 (W3.alloc (.cells #[.int .u64 (zm.st : Int), .int .i64 zm.kd, .slice p1 zm.lo.length q1, .slice p2 zm.hi.length q2, .slice p3 zm.va.length q3] 38))) := below_new _ _
        have hsz3 := HB33.out.size
        obtain ⟨x0, x1, x2, x3, x4⟩ := HM3.out.cells
        simp only at x0 x1 x2 x3 x4
        clear hsome hnone hnm hcu HST hbw3
        unfold Mt.val
        simp only [Option.isSome_some]
        go_upto_region 6 with fail
        rw [← hW3]
        clear hW3
        go_wp2_with (at_builtin
                     refine wpList_append_msgs rfl _ _ rfl w.heap.size (.slice ua F.length uc) _ F [⟨.slice p1 zm.lo.length q1, .slice p2 zm.hi.length q2, .slice p3 zm.va.length q3, zm⟩] rfl (HF3.out.here HBN.out).own rfl HL1 (by simp; omega) (by simp; omega) ?_
                     intro v4 w4 ho4 hk4
                     have HF4 : Hid (NewMsgs w.heap.size w4 v4 (F ++ [⟨.slice p1 zm.lo.length q1, .slice p2 zm.hi.length q2, .slice p3 zm.va.length q3, zm⟩])) := (HF3.out.here HBN.out).push (HY3.out.here HBN.out) ho4 hk4
                     have HX4 : Hid (Box w4 w.heap.size (.slice b1 r.lo.length d1) (.slice b2 r.hi.length d2) (.bool r.all)) := ⟨hk4.typ _ _ _ _ (by decide) (HX3.out.here HBN.out).row⟩
                     have HB4 : Hid (Below w.heap.size w w4) := (HB33.out.trans (HBN.out.mono HB33.out.size)).trans hk4.low
                     clear ho4 hk4)
        exact ⟨⟨n + 1, _, by omega, by go_num, by rw [HSN.out, ← HMS.out]; simp [msOf], by simp; omega, HF4.out, HX4.out, HB4.out⟩, by simp [intOf]; omega⟩
      | none =>
        have hz := hnone hcu
        unfold zeroM at hz
        cases hz
        have HSN : Hid (withinM ((msOf L).take (n + 1)) r = withinM ((msOf L).take n) r) := by rw [Hid, HST.out, hcu]; simp
        obtain ⟨W3, hW3⟩ : ∃ W3, W3 = w2.alloc (.cells #[.int .u64 0, .int .i64 0, .slice none 0 0, .slice none 0 0, .slice none 0 0] 38) := ⟨_, rfl⟩
        have hbw3 : Below w2.heap.size w2 W3 := by rw [hW3]; exact below_new _ _
        have HB33 : Hid (Below w.heap.size w W3) := HB3.out.trans (hbw3.mono HB3.out.size)
        have HF3 : Hid (NewMsgs w.heap.size W3 (.slice ua F.length uc) F) := HF2.out.here hbw3
        have HX3 : Hid (Box W3 w.heap.size (.slice b1 r.lo.length d1) (.slice b2 r.hi.length d2) (.bool r.all)) := HX2.out.here hbw3
        clear hsome hnone hcu HST hbw3
        unfold Mt.val
        simp only [Option.isSome_none]
        go_upto_region 6 with fail
        rw [← hW3]
        clear hW3
        go_wp2
        exact ⟨⟨n + 1, F, by omega, by go_num, by rw [HSN.out]; exact HMS.out, by omega, HF3.out, HX3.out, HB33.out⟩, by simp [intOf]; omega⟩
    · have hzl : ¬ (n : Int) < (L.length : Int) := by omega
      obtain rfl : n = L.length := by omega
      have HP : Hid (WithinPost w (msOf L) r (.returned (.slice ua F.length uc)) wr) := ⟨_, F, rfl, by rw [HMS.out, List.take_of_length_le (by rw [msOf_length]; exact Nat.le_refl _)], HNF.out, by rw [msOf_length]; exact hfn, HBE.out⟩
      go_wp2
      go_ret
      exact HP.out
end Go.Proofs.Ytkjjgbaoicjbaab
