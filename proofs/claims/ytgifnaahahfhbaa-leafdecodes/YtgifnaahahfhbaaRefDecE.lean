/- The document's Decode: the walk. -/
import Derived.Test.YtgifnaahahfhbaaRefDecP
import Derived.Deep.RegionHeldLaw
namespace Go.Proofs.Ytgifnaahahfhbaa
open Go.RowKit

/-- What it leaves. -/
structure RDecPost (w : World) (z : Int) (b : Key) (e : Ending) (w' : World) : Prop where
  is : ∃ vl F, e = .returned (.tuple #[vl, .int .i64 (if Sized z then (if (decE z b).isSome then 0 else 55) else 1)]) ∧ OutList w.heap.size w' vl F ∧ F.map It.e = (if Sized z then (decE z b).getD [] else []) ∧ Below w.heap.size w w'
theorem RDecPost.err {w w' : World} {z : Int} {b : Key} (hz : Sized z) (hd : decE z b = none) (hb : Below w.heap.size w w') : RDecPost w z b (.returned (.tuple #[.slice none 0 0, .int .i64 55])) w' :=
  ⟨_, [], by rw [if_pos hz, hd]; rfl, OutList.nil _ _, by rw [if_pos hz, hd]; rfl, hb⟩
theorem RDecPost.arg {w w' : World} {z : Int} {b : Key} (hz : ¬ Sized z) (hb : Below w.heap.size w w') : RDecPost w z b (.returned (.tuple #[.slice none 0 0, .int .i64 1])) w' :=
  ⟨_, [], by rw [if_neg hz], OutList.nil _ _, by rw [if_neg hz]; rfl, hb⟩
theorem RDecPost.ok {w w' : World} {z : Int} {b : Key} {v : Value} {F : List It} (hz : Sized z) (hd : decE z b = some (F.map It.e)) (hl : OutList w.heap.size w' v F) (hb : Below w.heap.size w w') : RDecPost w z b (.returned (.tuple #[v, .int .i64 0])) w' :=
  ⟨_, F, by rw [if_pos hz, hd]; rfl, hl, by rw [if_pos hz, hd]; rfl, hb⟩

theorem weightE_app (l m : List En) : weightE (l ++ m) = weightE l + weightE m := by
  induction l with
  | nil => simp [weightE]
  | cons e r ih => rw [List.cons_append]; simp only [weightE]; omega
/-- While it is read. -/
structure ReadAt (w0 : World) (N : Nat) (b : Key) (wx : World) (vl va : Value) (k t : Nat) (F : List It) (p : Key) : Prop where
  list : OutList w0.heap.size wx vl F
  ahead : NewKey w0.heap.size wx va p
  low : Below w0.heap.size w0 wx
  kn : k ≤ N
  tb : t ≤ b.length
  fk : F.length = k
  pl : p.length ≤ 131070
  wt : weightE (F.map It.e) ≤ k * 196606
  is : readP N [] (b.drop 2) = (readP (N - k) p (b.drop t)).map fun x => (F.map It.e ++ x.1, x.2)

set_option maxHeartbeats 12800000 in
set_option maxRecDepth 100000 in
theorem refDecode_any {w : World} {v : Value} {b : Key} {z : Int} (hv : KeyAt w v b) :
    Calls Try.prog 19 #[.int .i64 z, v] w fun e w' => RDecPost w z b e w' := by
  obtain ⟨a, c, rfl⟩ := hv.in.form
  have HV : Hid (KeyAt w (.slice a b.length c) b) := hv
  have hbs := hv.short
  have hbc : b.length ≤ c := by
    obtain ⟨⟨a', c', e1, _, hc, _⟩, _⟩ := hv
    cases e1; exact hc
  have HSZ := refSized_any w z
  clear hv
  by_cases hsz : Sized z
  · rw [decide_eq_true hsz] at HSZ
    by_cases hl2 : b.length < 2
    · have hz2 : (b.length : Int) < 2 := by omega
      have HD : Hid (decE z b = none) := by unfold decE; exact if_pos (.inr hl2)
      go_enter Try.func19, Try.ntmps19
      go_wp2_with (go_at_call 45; refine HSZ.mono ?_; rintro r w1 ⟨rfl, q, rfl⟩)
      go_ret2
      exact RDecPost.err hsz HD.out (below_draws (Below.refl _ _) q)
    · have hz2 : ¬ (b.length : Int) < 2 := by omega
      go_enter Try.func19, Try.ntmps19
      go_wp2_with fail
      refine HSZ.mono ?_
      rintro r w1 ⟨rfl, q, rfl⟩
      have HTB := told_any (HV.out.draws q) (by omega)
      go_wp2_with fail
      refine HTB.mono ?_
      rintro r w2' ⟨rfl, q2, rfl⟩
      have HB2 : Hid (Below w.heap.size w ((w.drewN q).drewN q2)) := below_draws (below_draws (Below.refl _ _) q) q2
      obtain ⟨N, hN⟩ : ∃ N, N = num2 b := ⟨_, rfl⟩
      have HN : Hid (N = num2 b ∧ N < 65536) := ⟨hN, by rw [hN]; exact num2_lt b⟩
      have hNl : N < 65536 := HN.out.2
      rw [← hN]
      clear hN HTB
      go_wp2_with fail
      go_loopw [7, 8, 10, 11] (fun vl va at_ i wx => ∃ k t F p, i = .int .i64 (k : Nat) ∧ at_ = .int .i64 (t : Nat) ∧ ReadAt w N b wx vl va k t F p) (fun _ _ _ i _ => N - (intOf i).toNat)
      case atStart =>
        exact ⟨0, 2, [], [], rfl, rfl, OutList.nil _ _, NewKey.nil _ _, below_draws (Below.refl _ _) _, Nat.zero_le _, by omega, rfl, by simp, by simp [weightE], by
          rw [Nat.sub_zero]
          cases readP N [] (b.drop 2) <;> rfl⟩
      case round =>
        obtain ⟨k, t, F, p, rfl, rfl, hra⟩ := hrel
        have HRA : Hid _ := hra
        have hkn := hra.kn
        have htb := hra.tb
        have hfk := hra.fk
        have hpl := hra.pl
        obtain ⟨al, nl, cl, evl⟩ := hra.list.shape
        subst evl
        obtain ⟨ap, cp, evp, -, hpcp, -⟩ := hra.ahead.at.is
        subst evp
        clear hra
        by_cases hlt : k < N
        · have hz : (k : Int) < (N : Int) := by omega
          by_cases h6 : b.length - t < 6
          · have hz6 : (b.length : Int) - (t : Int) < 6 := by omega
            have n1 : IntKind.i64.wrap ((b.length : Int) - (t : Int)) = (b.length : Int) - (t : Int) := by simp [IntKind.wrap, IntKind.bits, IntKind.signed]; omega
            have HD : Hid (decE z b = none) := decP_none (by rw [← HN.out.1]; exact readP_none hlt HRA.out.is (read1_none (by rw [List.length_drop]; exact h6)))
            go_wp2_with fail
            go_ret2
            exact RDecPost.err hsz HD.out HRA.out.low
          · have hz6 : ¬ (b.length : Int) - (t : Int) < 6 := by omega
            have n1 : IntKind.i64.wrap ((b.length : Int) - (t : Int)) = (b.length : Int) - (t : Int) := by simp [IntKind.wrap, IntKind.bits, IntKind.signed]; omega
            have HCUT : Hid (∀ q m, m + 2 ≤ b.length → KeyAt (wr.drewN q) (.slice (Option.map (fun x => x.add m) a) (b.length - m) (c - m)) (b.drop m)) := fun q m hm => by
              have h1 := (HV.out.here HRA.out.low).draws q
              exact ((h1.in.cut m (by omega)).2 (by omega)).at (Nat.le_refl _)
            have n2 : IntKind.i64.wrap ((t : Int) + 2) = (t : Int) + 2 := by simp [IntKind.wrap, IntKind.bits, IntKind.signed]; omega
            have n4 : IntKind.i64.wrap ((t : Int) + 4) = (t : Int) + 4 := by simp [IntKind.wrap, IntKind.bits, IntKind.signed]; omega
            have n6 : IntKind.i64.wrap ((t : Int) + 6) = (t : Int) + 6 := by simp [IntKind.wrap, IntKind.bits, IntKind.signed]; omega
            go_wp2_with fail
            refine (told_any (HCUT.out 0 t (by omega)) (by rw [List.length_drop]; omega)).mono ?_
            rintro r w3' ⟨rfl, q3, rfl⟩
            go_wp2_with fail
            refine (told_any (r := b.drop (t + 2)) (HCUT.out _ (t + 2) (by omega)) (by rw [List.length_drop]; omega)).mono ?_
            rintro r w4' ⟨rfl, q4, rfl⟩
            go_wp2_with fail
            refine (told_any (r := b.drop (t + 4)) (HCUT.out _ (t + 4) (by omega)) (by rw [List.length_drop]; omega)).mono ?_
            rintro r w5' ⟨rfl, q5, rfl⟩
            obtain ⟨s, hs⟩ : ∃ s, s = num2 (b.drop t) := ⟨_, rfl⟩
            obtain ⟨n, hn⟩ : ∃ n, n = num2 (b.drop (t + 2)) := ⟨_, rfl⟩
            obtain ⟨l, hl⟩ : ∃ l, l = num2 (b.drop (t + 4)) := ⟨_, rfl⟩
            have hs6 : s < 65536 := by rw [hs]; exact num2_lt _
            have hn6 : n < 65536 := by rw [hn]; exact num2_lt _
            have hl6 : l < 65536 := by rw [hl]; exact num2_lt _
            have HR1 : Hid (read1 p (b.drop t) = if s ≤ p.length ∧ n + l ≤ b.length - (t + 6) then some (s, ⟨p.take s ++ (b.drop (t + 6)).take n, ((b.drop (t + 6)).drop n).take l⟩, b.drop (t + 6 + (n + l))) else none) := by
              rw [Hid, read1_some (by rw [List.length_drop]; omega), hs, hn, hl]
              simp only [List.drop_drop, List.length_drop]
            rw [← hs, ← hn, ← hl]
            clear hs hn hl
            have n7 : IntKind.i64.wrap ((n : Int) + (l : Int)) = (n : Int) + (l : Int) := by simp [IntKind.wrap, IntKind.bits, IntKind.signed]; omega
            have n8 : IntKind.i64.wrap ((b.length : Int) - ((t : Int) + 6)) = (b.length : Int) - ((t : Int) + 6) := by simp [IntKind.wrap, IntKind.bits, IntKind.signed]; omega
            by_cases hp : s ≤ p.length ∧ n + l ≤ b.length - (t + 6)
            · have hp1 : ¬ (p.length : Int) < (s : Int) := by omega
              have hp2 : ¬ (b.length : Int) - ((t : Int) + 6) < (n : Int) + (l : Int) := by omega
              obtain ⟨W5, hW5⟩ : ∃ W5, W5 = wr.drewN (q3 + q4 + q5) := ⟨_, rfl⟩
              have HB5 : Hid (Below wr.heap.size wr W5) := by rw [hW5]; exact below_draws (Below.refl _ _) _
              have HPK : Hid (KeyAt W5 (.slice ap s cp) (p.take s)) := ((HRA.out.ahead.here HB5.out).at.in.take s hp.1 rfl).at (Nat.le_refl _)
              have n9 : IntKind.i64.wrap ((t : Int) + 6 + (n : Int)) = (t : Int) + 6 + (n : Int) := by simp [IntKind.wrap, IntKind.bits, IntKind.signed]; omega
              have n10 : IntKind.i64.wrap ((t : Int) + 6 + (n : Int) + (l : Int)) = (t : Int) + 6 + (n : Int) + (l : Int) := by simp [IntKind.wrap, IntKind.bits, IntKind.signed]; omega
              have hp3 : t + 6 + n + l ≤ b.length := by omega
              have hsc : (s : Int) ≤ (cp : Int) := by omega
              have hsc2 : s ≤ cp := by omega
              have hb1 : (0 : Int) ≤ (t : Int) + 6 + (n : Int) := by omega
              have hb2 : (t : Int) + 6 + (n : Int) ≤ (c : Int) := by omega
              have hb3 : (0 : Int) ≤ (t : Int) + 6 := by omega
              have hb4 : (t : Int) + 6 ≤ (t : Int) + 6 + (n : Int) := by omega
              have hmx : max ((t : Int) + 6 + (n : Int)) 0 = (t : Int) + 6 + (n : Int) := by omega
              have htn1 : ((t : Int) + 6).toNat = t + 6 := by omega
              have htn2 : ((t : Int) + 6 + (n : Int)).toNat = t + 6 + n := by omega
              obtain ⟨u1, hu1⟩ : ∃ u, u = (if c = t + 6 then Value.slice a n (c - (t + 6)) else Value.slice (Option.map (fun x => x.add (t + 6)) a) n (c - (t + 6))) := ⟨_, rfl⟩
              have HBK : Hid (∀ W', Below wr.heap.size wr W' → KeyAt W' u1 ((b.drop (t + 6)).take n)) := fun W' hW => by
                have h1 := (HV.out.here (HRA.out.low.trans (hW.mono HRA.out.low.size))).in.cut (t + 6) (by omega)
                have hdl : (b.drop (t + 6)).length = b.length - (t + 6) := List.length_drop
                rw [← hdl] at h1
                rw [hu1]
                split
                · rename_i hc
                  exact ((h1.1 hc).take n (by rw [hdl]; omega) rfl).at (Nat.le_refl _)
                · rename_i hc
                  exact ((h1.2 hc).take n (by rw [hdl]; omega) rfl).at (Nat.le_refl _)
              rcases Decidable.em (c = t + 6) with hct | hct
              rotate_left
              focus
                rw [if_neg hct] at hu1
                go_wp2_with fail
                rw [← hW5]
                clear hW5
                go_region_law
                  (first
                    | (refine step_append_key (by rfl) _ _ (by rfl) W5.heap.size _ (.slice ap s cp) [] (p.take s) (by rfl) (by first | exact newE (row_e1 W5 _) (Nat.le_refl _) | exact newE (heap_alloc_last W5 _) (Nat.le_refl _)) (by rfl) (by first | exact HPK.out.here (below_e1 W5 _) | exact HPK.out.here (below_new W5 _)) (by simp; omega) (by simp) ?_
                       intro x1 w1 hx1 hk1 hg1
                       have HV1 : Hid (NewKey W5.heap.size w1 x1 (p.take s)) := hx1
                       have HB1 : Hid (Below W5.heap.size W5 w1) := by first | exact (below_e1 W5 _).trans hk1.low | exact (below_new W5 _).trans hk1.low
                       clear hx1 hk1 hg1)
                    | (refine step_append_key (by rfl) _ _ (by rfl) W5.heap.size x1 u1 (p.take s) ((b.drop (t + 6)).take n) (by rfl) HV1.out (by first | exact hu1.symm | (rw [hu1]; rfl)) (by exact HBK.out w1 (HB5.out.trans (HB1.out.mono HB5.out.size))) (by simp; omega) HB1.out.size ?_
                       intro x2 w2 hx2 hk2 hg2
                       have HV2 : Hid (NewKey W5.heap.size w2 x2 (p.take s ++ (b.drop (t + 6)).take n)) := hx2
                       have HB2 : Hid (Below W5.heap.size W5 w2) := HB1.out.trans hk2.low
                       clear hx2 hk2 hg2))
              rotate_right
              focus
                rw [if_pos hct] at hu1
                have hq1 : (c = t + 6) = True := eq_true hct
                have hq2 : (t + 6 = c) = True := eq_true hct.symm
                have hq3 : c ≤ t + 6 := by omega
                have hq4 : n = 0 := by omega
                have HQ4 : Hid (c = t + 6 + n) := by rw [hq4]; exact hct
                clear hq4
                rw [show c - (t + 6) = 0 by omega] at hu1
                have hb5 : (t : Int) + 6 + (n : Int) ≤ (t : Int) + 6 := by omega
                have hb6 : (t : Int) + 6 + (n : Int) ≤ (c : Int) := by omega
                have HCT : Hid (c = t + 6) := hct
                clear hct HQ4
                go_wp2_with fail
                rw [← hW5]
                clear hW5
                go_region_law
                  (first
                    | (refine step_append_key (by rfl) _ _ (by rfl) W5.heap.size _ (.slice ap s cp) [] (p.take s) (by rfl) (by first | exact newE (row_e1 W5 _) (Nat.le_refl _) | exact newE (heap_alloc_last W5 _) (Nat.le_refl _)) (by rfl) (by first | exact HPK.out.here (below_e1 W5 _) | exact HPK.out.here (below_new W5 _)) (by simp; omega) (by simp) ?_
                       intro x1 w1 hx1 hk1 hg1
                       have HV1 : Hid (NewKey W5.heap.size w1 x1 (p.take s)) := hx1
                       have HB1 : Hid (Below W5.heap.size W5 w1) := by first | exact (below_e1 W5 _).trans hk1.low | exact (below_new W5 _).trans hk1.low
                       clear hx1 hk1 hg1)
                    | (refine step_append_key (by rfl) _ _ (by rfl) W5.heap.size x1 u1 (p.take s) ((b.drop (t + 6)).take n) (by rfl) HV1.out (by first | exact hu1.symm | (rw [hu1]; rfl)) (by exact HBK.out w1 (HB5.out.trans (HB1.out.mono HB5.out.size))) (by simp; omega) HB1.out.size ?_
                       intro x2 w2 hx2 hk2 hg2
                       have HV2 : Hid (NewKey W5.heap.size w2 x2 (p.take s ++ (b.drop (t + 6)).take n)) := hx2
                       have HB2 : Hid (Below W5.heap.size W5 w2) := HB1.out.trans hk2.low
                       clear hx2 hk2 hg2))
              all_goals
                obtain ⟨p1, l1, q1, e1⟩ := HV2.out.shape
                subst e1
                have hB26 : Below wr.heap.size wr w2 := HB5.out.trans (HB2.out.mono HB5.out.size)
                have HB26 : Hid (Below wr.heap.size wr w2) := hB26
                have HBW2 : Hid (Below w.heap.size w w2) := HRA.out.low.trans (hB26.mono HRA.out.low.size)
                have HF2 : Hid (OutList w.heap.size w2 (.slice al nl cl) F) := HRA.out.list.here hB26
                have HKY : Hid (NewKey w.heap.size w2 (.slice p1 l1 q1) (p.take s ++ (b.drop (t + 6)).take n)) := ⟨own_mono HV2.out.own (Nat.le_trans HRA.out.low.size HB5.out.size), HV2.out.short⟩
                clear hB26 HB1 HB2 HV1 HV2 hu1
                obtain ⟨u2, hu2⟩ : ∃ u, u = (if c = t + 6 + n then Value.slice a l 0 else Value.slice (Option.map (fun x => x.add (t + 6 + n)) a) l (c - (t + 6 + n))) := ⟨_, rfl⟩
                have HBK2 : Hid (∀ W', Below w2.heap.size w2 W' → KeyAt W' u2 (((b.drop (t + 6)).drop n).take l)) := fun W' hW => by
                  have h1 := (HV.out.here (HBW2.out.trans (hW.mono HBW2.out.size))).in.cut (t + 6 + n) (by omega)
                  have hdl : (b.drop (t + 6 + n)).length = b.length - (t + 6 + n) := List.length_drop
                  rw [List.drop_drop]
                  rw [← hdl] at h1
                  rw [hu2]
                  split
                  · rename_i hc
                    have h2 := ((h1.1 hc).take l (by rw [hdl]; omega) rfl).at (Nat.le_refl _)
                    rw [show c - (t + 6 + n) = 0 by omega] at h2
                    exact h2
                  · rename_i hc
                    exact ((h1.2 hc).take l (by rw [hdl]; omega) rfl).at (Nat.le_refl _)
                have hd1 : (0 : Int) ≤ (t : Int) + 6 + (n : Int) + (l : Int) := by omega
                have hd2 : (t : Int) + 6 + (n : Int) + (l : Int) ≤ (c : Int) := by omega
                have hd4 : (t : Int) + 6 + (n : Int) ≤ (t : Int) + 6 + (n : Int) + (l : Int) := by omega
                have hmx2 : max ((t : Int) + 6 + (n : Int) + (l : Int)) 0 = (t : Int) + 6 + (n : Int) + (l : Int) := by omega
                have htn3 : ((t : Int) + 6 + (n : Int) + (l : Int)).toNat = t + 6 + n + l := by omega
                obtain ⟨K, hK⟩ : ∃ K, K = p.take s ++ (b.drop (t + 6)).take n := ⟨_, rfl⟩
                obtain ⟨V, hV⟩ : ∃ V, V = ((b.drop (t + 6)).drop n).take l := ⟨_, rfl⟩
                have HKV : Hid (K = p.take s ++ (b.drop (t + 6)).take n ∧ V = ((b.drop (t + 6)).drop n).take l) := ⟨hK, hV⟩
                have hkl : K.length ≤ 131070 := by rw [hK, List.length_append, List.length_take, List.length_take]; omega
                have hvl : V.length ≤ 65535 := by rw [hV, List.length_take]; omega
                rw [← hK] at HKY
                rw [← hV] at HBK2
                clear hK hV
                by_cases hct2 : c = t + 6 + n
                · rw [if_pos hct2] at hu2
                  have hq5 : (c = t + 6 + n) = True := eq_true hct2
                  have hq6 : (t + 6 + n = c) = True := eq_true hct2.symm
                  have hd5 : (t : Int) + 6 + (n : Int) + (l : Int) ≤ (t : Int) + 6 + (n : Int) := by omega
                  have hcz : c - (t + 6 + n) = 0 := by omega
                  clear hct2
                  go_wp2_with (first
                    | (at_builtin; refine wpList_append_key rfl _ _ rfl w2.heap.size (.slice (some ⟨w2.heap.size, 0, none⟩) 0 0) u2 [] V rfl (newE (heap_alloc_last w2 _) (Nat.le_refl _)) (by rw [hu2]; rfl) (HBK2.out _ (below_new w2 _)) (by simp; omega) (by simp) ?_
                       intro x3 w3 hx3 hk3
                       have HV3 : Hid (NewKey w2.heap.size w3 x3 V) := hx3
                       have HB3 : Hid (Below w2.heap.size w2 w3) := (below_new w2 _).trans hk3.low
                       obtain ⟨p3, l3, q3', e3⟩ := hx3.shape
                       subst e3
                       have HY3 : Hid (NewPair w3 ⟨.slice p1 l1 q1, .slice p3 l3 q3', ⟨K, V⟩⟩) := ⟨(HKY.out.here HB3.out).t, HV3.out.t⟩
                       clear hx3 hk3)
                    | (at_builtin; refine wpList_append_rows rfl _ _ rfl w.heap.size (.slice al nl cl) (.slice (some ⟨w3.heap.size, 0, none⟩) 1 1) F [⟨.slice p1 l1 q1, .slice p3 l3 q3', ⟨K, V⟩⟩] rfl ((HF2.out.here HB3.out).here (below_new w3 _)).own rfl (list_one w3 ⟨.slice p1 l1 q1, .slice p3 l3 q3', ⟨K, V⟩⟩ HY3.out.ok) (by simp; omega) (by have := HB3.out.size; have := HBW2.out.size; simp; omega) ?_
                       intro v4 w4 ho4 hk4
                       have HF4 : Hid (OutList w.heap.size w4 v4 (F ++ [⟨.slice p1 l1 q1, .slice p3 l3 q3', ⟨K, V⟩⟩])) := ((HF2.out.here HB3.out).here (below_new w3 _)).push (HY3.out.here (below_new w3 _)) ho4 hk4
                       have HK4 : Hid (NewKey w.heap.size w4 (.slice p1 l1 q1) K) := ((HKY.out.here HB3.out).here (below_new w3 _)).keep hk4 (by decide)
                       have HB4 : Hid (Below w.heap.size w w4) := (HBW2.out.trans (HB3.out.mono HBW2.out.size)).trans (((below_new w3 _).mono (Nat.le_trans HBW2.out.size HB3.out.size)).trans hk4.low)
                       clear ho4 hk4))
                  refine ⟨⟨k + 1, t + 6 + n + l, _, K, by go_num, by first | rfl | go_num, HF4.out, HK4.out, HB4.out, by omega, by omega, by rw [List.length_append, hfk]; rfl, hkl, ?_, ?_⟩, by simp [intOf]; omega⟩
                  · rw [List.map_append, weightE_app]
                    have := HRA.out.wt
                    simp only [List.map_cons, List.map_nil, weightE]
                    omega
                  · have h1 := readP_next hlt HRA.out.is (by rw [HR1.out]; exact if_pos hp)
                    rw [h1, HKV.out.1, HKV.out.2, List.map_append]
                    rw [show t + 6 + (n + l) = t + 6 + n + l by omega]
                    rfl
                · rw [if_neg hct2] at hu2
                  first
                  | (exfalso; omega)
                  | (go_wp2_with (first
                       | (at_builtin; refine wpList_append_key rfl _ _ rfl w2.heap.size (.slice (some ⟨w2.heap.size, 0, none⟩) 0 0) u2 [] V rfl (newE (heap_alloc_last w2 _) (Nat.le_refl _)) (by rw [hu2]; rfl) (HBK2.out _ (below_new w2 _)) (by simp; omega) (by simp) ?_
                          intro x3 w3 hx3 hk3
                          have HV3 : Hid (NewKey w2.heap.size w3 x3 V) := hx3
                          have HB3 : Hid (Below w2.heap.size w2 w3) := (below_new w2 _).trans hk3.low
                          obtain ⟨p3, l3, q3', e3⟩ := hx3.shape
                          subst e3
                          have HY3 : Hid (NewPair w3 ⟨.slice p1 l1 q1, .slice p3 l3 q3', ⟨K, V⟩⟩) := ⟨(HKY.out.here HB3.out).t, HV3.out.t⟩
                          clear hx3 hk3)
                       | (at_builtin; refine wpList_append_rows rfl _ _ rfl w.heap.size (.slice al nl cl) (.slice (some ⟨w3.heap.size, 0, none⟩) 1 1) F [⟨.slice p1 l1 q1, .slice p3 l3 q3', ⟨K, V⟩⟩] rfl ((HF2.out.here HB3.out).here (below_new w3 _)).own rfl (list_one w3 ⟨.slice p1 l1 q1, .slice p3 l3 q3', ⟨K, V⟩⟩ HY3.out.ok) (by simp; omega) (by have := HB3.out.size; have := HBW2.out.size; simp; omega) ?_
                          intro v4 w4 ho4 hk4
                          have HF4 : Hid (OutList w.heap.size w4 v4 (F ++ [⟨.slice p1 l1 q1, .slice p3 l3 q3', ⟨K, V⟩⟩])) := ((HF2.out.here HB3.out).here (below_new w3 _)).push (HY3.out.here (below_new w3 _)) ho4 hk4
                          have HK4 : Hid (NewKey w.heap.size w4 (.slice p1 l1 q1) K) := ((HKY.out.here HB3.out).here (below_new w3 _)).keep hk4 (by decide)
                          have HB4 : Hid (Below w.heap.size w w4) := (HBW2.out.trans (HB3.out.mono HBW2.out.size)).trans (((below_new w3 _).mono (Nat.le_trans HBW2.out.size HB3.out.size)).trans hk4.low)
                          clear ho4 hk4))
                     refine ⟨⟨k + 1, t + 6 + n + l, _, K, by go_num, by first | rfl | go_num, HF4.out, HK4.out, HB4.out, by omega, by omega, by rw [List.length_append, hfk]; rfl, hkl, ?_, ?_⟩, by simp [intOf]; omega⟩
                     · rw [List.map_append, weightE_app]
                       have := HRA.out.wt
                       simp only [List.map_cons, List.map_nil, weightE]
                       omega
                     · have h1 := readP_next hlt HRA.out.is (by rw [HR1.out]; exact if_pos hp)
                       rw [h1, HKV.out.1, HKV.out.2, List.map_append]
                       rw [show t + 6 + (n + l) = t + 6 + n + l by omega]
                       rfl)
            · have HD : Hid (decE z b = none) := decP_none (by rw [← HN.out.1]; exact readP_none hlt HRA.out.is (by rw [HR1.out]; exact if_neg hp))
              by_cases hq : s ≤ p.length
              · have hp1 : ¬ (p.length : Int) < (s : Int) := by omega
                have hp2 : (b.length : Int) - ((t : Int) + 6) < (n : Int) + (l : Int) := by omega
                go_wp2_with fail
                go_ret2
                exact RDecPost.err hsz HD.out (below_draws HRA.out.low _)
              · have hp1 : (p.length : Int) < (s : Int) := by omega
                go_wp2_with fail
                go_ret2
                exact RDecPost.err hsz HD.out (below_draws HRA.out.low _)
        · have hz : ¬ (k : Int) < (N : Int) := by omega
          have hkN : N - k = 0 := by omega
          obtain ⟨C, hC⟩ : ∃ C, C = checkE z (F.map It.e) := ⟨_, rfl⟩
          obtain ⟨E, hE⟩ : ∃ E, E = (if C = 0 then encE (F.map It.e) else []) := ⟨_, rfl⟩
          have HD : Hid (decE z b = if C = 0 ∧ encE (F.map It.e) = b then some (F.map It.e) else none) := by
            rw [hC]
            refine decP_some (r := b.drop t) hsz ?_
            rw [← HN.out.1, HRA.out.is, hkN]
            simp [readP]
          have hsz2 : F.length * 48 ≤ 140737488355328 := by omega
          have hwt : weightE (F.map It.e) ≤ 68719476736 := Nat.le_trans HRA.out.wt (by omega)
          have HEN := refEncode_any (z := z) (HRA.out.list.list hsz2) hwt
          rw [← hC, ← hE] at HEN
          have HE : Hid (E = (if C = 0 then encE (F.map It.e) else [])) := hE
          clear hC hE hwt
          go_wp2_with fail
          refine HEN.mono ?_
          rintro r w4 ⟨v4, rfl, hv4, hb4⟩
          have HB4 : Hid (Below w.heap.size w w4) := HRA.out.low.trans (hb4.mono HRA.out.low.size)
          have HOUT : Hid (OutList w.heap.size w4 (.slice al nl cl) F) := HRA.out.list.here hb4
          have c1 : Sem.run Try.prog (convert 39 9 v4) w4 = .ok (.string (strB E)) w4 := conv_key hv4.at
          have c2 : Sem.run Try.prog (convert 39 9 (.slice a b.length c)) w4 = .ok (.string (strB b)) w4 := conv_key (HV.out.here HB4.out)
          clear hv4 hb4 HEN
          by_cases hC0 : C = 0
          · have hCz : ((C : Int) != 0) = false := by simp; omega
            rw [if_pos hC0] at HE
            by_cases heb : E = b
            · have HDS : Hid (decE z b = some (F.map It.e)) := by rw [Hid, HD.out]; exact if_pos ⟨hC0, by rw [← HE.out]; exact heb⟩
              rw [heb] at c1
              have hne : ((strB b).toList != (strB b).toList) = false := by rw [strB_ne, decide_eq_true rfl]; rfl
              generalize strB b = S at c1 c2 hne
              clear heb
              go_wp2_with fail
              go_ret2
              exact RDecPost.ok hsz HDS.out HOUT.out HB4.out
            · have HDN : Hid (decE z b = none) := by rw [Hid, HD.out]; exact if_neg fun h => heb (by rw [HE.out]; exact h.2)
              have hne : ((strB E).toList == (strB b).toList) = false := by rw [strB_eq, decide_eq_false heb]
              generalize strB b = S at c2 hne
              generalize strB E = S2 at c1 hne
              go_wp2_with fail
              go_ret2
              exact RDecPost.err hsz HDN.out HB4.out
          · have hCz : ((C : Int) != 0) = true := by simp; omega
            have HDN : Hid (decE z b = none) := by rw [Hid, HD.out]; exact if_neg fun h => hC0 h.1
            clear c1 c2
            go_wp2_with fail
            go_ret2
            exact RDecPost.err hsz HDN.out HB4.out
  · rw [decide_eq_false hsz] at HSZ
    go_enter Try.func19, Try.ntmps19
    go_wp2_with (go_at_call 45; refine HSZ.mono ?_; rintro r w1 ⟨rfl, q, rfl⟩)
    go_ret2
    exact RDecPost.arg hsz (below_draws (Below.refl _ _) q)
end Go.Proofs.Ytgifnaahahfhbaa
