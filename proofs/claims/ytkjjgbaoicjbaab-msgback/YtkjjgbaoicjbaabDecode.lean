/- Decode. -/
import Derived.Test.YtkjjgbaoicjbaabDecS
namespace Go.Proofs.Ytkjjgbaoicjbaab
open Go.RowKit

/-- What Decode gives. -/
structure DecodePost (w : World) (z : Int) (b : Key) (r : Ending) (w' : World) : Prop where
  is : ∃ (v : Value) (F : List Mt), r = .returned (.tuple #[v, .int .i64 ((decR z b).2 : Nat)]) ∧ msOf F = (decR z b).1 ∧ NewMsgs w.heap.size w' v F ∧ F.length < 4294967296 ∧ Below w.heap.size w w'
theorem DecodePost.none {w w' : World} {z : Int} {b : Key} {c : Nat} (h : decR z b = ([], c)) (hb : Below w.heap.size w w') : DecodePost w z b (.returned (.tuple #[.slice none 0 0, .int .i64 (c : Nat)])) w' :=
  ⟨_, [], by rw [h], by rw [h]; rfl, NewMsgs.nil _ _, by decide, hb⟩

set_option maxHeartbeats 3200000 in
set_option maxRecDepth 100000 in
theorem decode_any {w : World} {v : Value} {z : Int} {b : Key} (hv : KeyIn w.heap.size w v b) :
    Calls Try.prog 8 #[.int .i64 z, v] w fun r w' => DecodePost w z b r w' := by
  obtain ⟨a, c, rfl⟩ := hv.form
  have HV : Hid (KeyIn w.heap.size w (.slice a b.length c) b) := hv
  have HSI := sized_any w z
  clear hv
  by_cases hz : Sized z
  · rw [decide_eq_true hz] at HSI
    have HZ : Hid (Sized z) := hz
    obtain ⟨W, hW⟩ : ∃ W, W = w.alloc (.cells #[.slice a b.length c, .bool false] 56) := ⟨_, rfl⟩
    have HBW : Hid (Below w.heap.size w W) := by rw [hW]; exact below_new _ _
    have HRD : Rd w.heap.size W w.heap.size (b, false) := ⟨_, ⟨by rw [hW]; exact heap_alloc_last _ _⟩, HV.out.below HBW.out⟩
    have HN := number_any (n := 4) HRD (Nat.le_refl _) (by decide)
    have hnb := num_lt (s := (b, false)) (n := 4) (by decide)
    have hi0 : (4 ≤ b.length → ReadTo (b.drop 4) 0 [] (takeS (b, false) 4).2 ∧ num (takeS (b, false) 4).1 = num (b.take 4)) ∧ (b.length < 4 → (takeS (b, false) 4).2.2 = true) := by
      constructor
      · intro h4; rw [takeS_is h4]; exact ⟨⟨fun _ => rfl, fun h => by cases h⟩, rfl⟩
      · intro h4; unfold takeS; rw [if_pos (by simpa using h4)]
    obtain ⟨s0, hs0⟩ : ∃ s0, s0 = takeS (b, false) 4 := ⟨_, rfl⟩
    rw [← hs0] at HN hnb hi0
    obtain ⟨N, hN⟩ : ∃ N, N = num s0.1 := ⟨_, rfl⟩
    rw [← hN] at HN hnb hi0
    have hN2 : N < 4294967296 := by simpa using hnb
    have HI0 : Hid ((4 ≤ b.length → ReadTo (b.drop 4) 0 [] s0.2 ∧ N = num (b.take 4)) ∧ (b.length < 4 → s0.2.2 = true)) := hi0
    obtain ⟨G, hG⟩ : ∃ G, G = w.heap.size := ⟨_, rfl⟩
    have HG : Hid (w.heap.size ≤ G) := by rw [Hid, hG]; exact Nat.le_refl _
    clear HRD hs0 hN hnb hi0 hz
    go_enter Try.func8, Try.ntmps8
    go_wp2_with fail
    refine HSI.mono ?_
    rintro r w0 ⟨rfl, hw0⟩
    subst hw0
    clear HSI
    go_wp2_with fail
    rw [← hW]
    clear hW
    refine HN.mono ?_
    rintro r w1 ⟨rfl, hrd, hk⟩
    have HB1 : Hid (Below w0.heap.size w0 w1) := HBW.out.trans hk.low
    rw [← hG] at hrd
    rw [← hG]
    have HR1 : Hid (Rd w0.heap.size w1 G s0.2) := by rw [Hid, ← hG]; exact hrd
    clear hrd hk HN hG
    go_wp2_with fail
    go_loopw [6, 14] (fun l i wx => ∃ (k : Nat) (F : List Mt) (s : Key × Bool), k ≤ N ∧ i = .int .u64 k ∧ NewMsgs w0.heap.size wx l F ∧ F.length ≤ k ∧ Rd w0.heap.size wx G s ∧ Below w0.heap.size w0 wx ∧ (4 ≤ b.length → ReadTo (b.drop 4) k (msOf F) s ∧ N = num (b.take 4)) ∧ (b.length < 4 → s.2 = true)) (fun _ i _ => N - (intOf i).toNat)
    case atStart => exact ⟨0, [], s0.2, by omega, rfl, NewMsgs.nil _ _, Nat.le_refl _, HR1.out, HB1.out, HI0.out.1, HI0.out.2⟩
    case round =>
      obtain ⟨k, F, s, hk, rfl, hnf, hfk, hrd, hlow, hi1, hi2⟩ := hrel
      obtain ⟨r, sh⟩ := s
      obtain ⟨rv, hbx, hrv⟩ := hrd.is
      simp only at hbx hrv
      obtain ⟨ra, rc, hrf⟩ := hrv.form
      subst hrf
      obtain ⟨k0, k1⟩ := hbx.cell
      obtain ⟨ua, uc, hu⟩ := own_form' hnf.own
      subst hu
      have HNF : Hid (NewMsgs w0.heap.size wr (.slice ua F.length uc) F) := hnf
      have HRD : Hid (Rd w0.heap.size wr G (r, sh)) := hrd
      have HBE : Hid (Below w0.heap.size w0 wr) := hlow
      have HI1 : Hid (4 ≤ b.length → ReadTo (b.drop 4) k (msOf F) (r, sh) ∧ N = num (b.take 4)) := hi1
      have HI2 : Hid (b.length < 4 → sh = true) := hi2
      have hbs := hlow.size
      have HNO : Hid (sh = true → DecodePost w0 z b (.returned (.tuple #[.slice none 0 0, .int .i64 73])) wr) := fun hs => by
        refine DecodePost.none (c := 73) ?_ HBE.out
        rcases Nat.lt_or_ge b.length 4 with h4 | h4
        · exact decR_few HZ.out h4
        · obtain ⟨h1, h2⟩ := HI1.out h4
          exact decR_none HZ.out h4 (k := k) (by omega) (h1.no hs)
      clear hnf hrd hbx hrv hlow hi1 hi2 HI0 HR1 HB1
      by_cases hlt : k < N
      · have hzk : (k : Int) < (N : Int) := by omega
        cases sh with
        | true =>
          have HP := HNO.out rfl
          clear HNO
          go_wp2
          go_ret2
          exact HP
        | false =>
          have HME := message_any HRD.out HG.out hbs
          have hI2 : ¬ b.length < 4 := fun h => by have := HI2.out h; cases this
          clear HNO k0
          go_wp2_with fail
          refine HME.mono ?_
          rintro e w2 ⟨⟨y1, y2, y3, ym⟩, rfl, hym, hy2, hrd2, hk2⟩
          simp only at hym
          obtain ⟨p1, q1, g1⟩ := hy2.lo.in.form
          obtain ⟨p2, q2, g2⟩ := hy2.hi.in.form
          obtain ⟨p3, q3, g3⟩ := hy2.va.in.form
          simp only at g1 g2 g3
          subst g1 g2 g3
          have HY2 : Hid (NewMsg w0.heap.size w2 ⟨.slice p1 ym.lo.length q1, .slice p2 ym.hi.length q2, .slice p3 ym.va.length q3, ym⟩) := hy2
          have HYM : Hid (ym = (msgS (r, false)).1) := hym
          have HR2 : Hid (Rd w0.heap.size w2 G (msgS (r, false)).2) := hrd2
          have HB2 : Hid (Below w0.heap.size w0 w2) := HBE.out.trans hk2.low
          have HF2 : Hid (NewMsgs w0.heap.size w2 (.slice ua F.length uc) F) := HNF.out.keep hk2 (by decide) (by decide)
          have HL1 := msg_one w2 _ HY2.out.ok
          have HBN : Hid (Below w2.heap.size w2 (w2.alloc (.cells #[.int .u64 (ym.st : Int), .int .i64 ym.kd, .slice p1 ym.lo.length q1, .slice p2 ym.hi.length q2, .slice p3 ym.va.length q3] 38))) := below_new _ _
          have hsz2 := HB2.out.size
          clear hy2 hym hrd2 hk2 HME k1
          unfold Mt.val
          simp only
          go_wp2_with (at_builtin
                       refine wpList_append_msgs rfl _ _ rfl w0.heap.size (.slice ua F.length uc) _ F [⟨.slice p1 ym.lo.length q1, .slice p2 ym.hi.length q2, .slice p3 ym.va.length q3, ym⟩] rfl (HF2.out.here HBN.out).own rfl HL1 (by simp; omega) (by simp; omega) ?_
                       intro v4 w4 ho4 hk4
                       have HF4 : Hid (NewMsgs w0.heap.size w4 v4 (F ++ [⟨.slice p1 ym.lo.length q1, .slice p2 ym.hi.length q2, .slice p3 ym.va.length q3, ym⟩])) := (HF2.out.here HBN.out).push (HY2.out.here HBN.out) ho4 hk4
                       have HR4 : Hid (Rd w0.heap.size w4 G (msgS (r, false)).2) := (HR2.out.here hsz2 HBN.out).keep hk4 (by decide)
                       have HB4 : Hid (Below w0.heap.size w0 w4) := (HB2.out.trans (HBN.out.mono HB2.out.size)).trans hk4.low
                       clear ho4 hk4)
          exact ⟨⟨k + 1, _, (msgS (r, false)).2, by omega, by go_num, HF4.out, by simp; omega, HR4.out, HB4.out, fun h4 => ⟨by have := (HI1.out h4).1.step rfl; rw [msOf, List.map_append]; rw [← HYM.out] at this; exact this, (HI1.out h4).2⟩, fun h4 => absurd h4 hI2⟩, by simp [intOf]; omega⟩
      · have hzk : ¬ (k : Int) < (N : Int) := by omega
        obtain rfl : k = N := by omega
        cases sh with
        | true =>
          have HP := HNO.out rfl
          clear HNO
          go_wp2
          go_ret2
          exact HP
        | false =>
          have hI2 : ¬ b.length < 4 := fun h => by have := HI2.out h; cases this
          have HDR : Hid (decR z b = if r = [] ∧ checkM z (msOf F) = 0 then (msOf F, 0) else ([], 73)) := by
            obtain ⟨h1, h2⟩ := HI1.out (by omega)
            have := h1.ok rfl
            rw [h2] at this
            exact decR_some HZ.out (by omega) this
          clear HNO
          rcases Nat.eq_zero_or_pos r.length with hr0 | hr0
          · obtain rfl : r = [] := List.eq_nil_of_length_eq_zero hr0
            have HCK := check_any (z := z) (HNF.out.at (by omega))
            clear hr0
            by_cases hck : checkM z (msOf F) = 0
            · rw [hck] at HCK
              have HD2 : Hid (decR z b = (msOf F, 0)) := by rw [Hid, HDR.out, if_pos ⟨rfl, hck⟩]
              clear hck HDR
              go_wp2_with fail
              refine HCK.mono ?_
              rintro e w2 ⟨rfl, hb2⟩
              have HP : Hid (DecodePost w0 z b (.returned (.tuple #[.slice ua F.length uc, .int .i64 0])) w2) := ⟨_, F, by rw [HD2.out]; rfl, by rw [HD2.out], HNF.out.here hb2, by omega, HBE.out.trans (hb2.mono hbs)⟩
              clear hb2 HCK
              go_wp2
              go_ret2
              exact HP.out
            · have HD2 : Hid (decR z b = ([], 73)) := by rw [Hid, HDR.out, if_neg (fun h => hck h.2)]
              obtain ⟨cm, hcm⟩ : ∃ cm, cm = checkM z (msOf F) := ⟨_, rfl⟩
              rw [← hcm] at HCK hck
              have hc1 : ((cm : Int) == 0) = false := by rw [beq_eq_false_iff_ne]; omega
              have hc2 : ¬ (cm : Int) = 0 := by omega
              clear hcm HDR
              go_wp2_with fail
              refine HCK.mono ?_
              rintro e w2 ⟨rfl, hb2⟩
              have HP : Hid (DecodePost w0 z b (.returned (.tuple #[.slice none 0 0, .int .i64 73])) w2) := DecodePost.none (c := 73) HD2.out (HBE.out.trans (hb2.mono hbs))
              clear hb2 HCK
              go_wp2
              go_ret2
              exact HP.out
          · have HP : Hid (DecodePost w0 z b (.returned (.tuple #[.slice none 0 0, .int .i64 73])) wr) := DecodePost.none (c := 73) (by rw [HDR.out, if_neg (fun h => by rw [h.1] at hr0; simp at hr0)]) HBE.out
            have hr1 : (0 : Int) < (r.length : Int) := by omega
            go_wp2
            go_ret2
            exact HP.out
  · rw [decide_eq_false hz] at HSI
    have HP : Hid (DecodePost w z b (.returned (.tuple #[.slice none 0 0, .int .i64 1])) w) := DecodePost.none (c := 1) (decR_arg hz b) (Below.refl _ _)
    go_enter Try.func8, Try.ntmps8
    go_wp2_with fail
    refine HSI.mono ?_
    rintro r w0 ⟨rfl, hw0⟩
    subst hw0
    clear HSI hz
    go_wp2
    go_ret2
    exact HP.out
end Go.Proofs.Ytkjjgbaoicjbaab
