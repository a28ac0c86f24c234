/- The document's entries, Bytes, Split. -/
import Derived.Test.YtgifnaahahfhbaaRefSplit
namespace Go.Proofs.Ytgifnaahahfhbaa
open Go.RowKit

set_option maxHeartbeats 1600000 in
set_option maxRecDepth 100000 in
theorem refEntries_any {w : World} {v : Value} {L : List It} {s : Nat} (hs : s = 512 ∨ s = 1024 ∨ s = 2048 ∨ s = 4096) (hL : ListAt w.heap.size w v L) :
    Calls Try.prog 58 #[.int .i64 s, v] w fun r w' => r = .returned (.int .i64 (faultE s (L.map It.e) : Nat)) ∧ ∃ q, w' = w.drewN q := by
  have hsh := hL.short
  obtain ⟨a, c, rfl⟩ := hL.form
  have HL : Hid (ListAt w.heap.size w (.slice a L.length c) L) := hL
  have HS : Hid (s = 512 ∨ s = 1024 ∨ s = 2048 ∨ s = 4096) := hs
  clear hL hs
  go_enter Try.func58, Try.ntmps58
  go_wp2_with fail
  go_loopw [5] (fun i wx => ∃ k : Nat, k ≤ L.length ∧ i = .int .i64 k ∧ faultF s [] ((L.map It.e).take k) = 0 ∧ ∃ q, wx = w.drewN q) (fun i _ => L.length - (intOf i).toNat)
  case atStart => exact ⟨0, by omega, rfl, rfl, 0, rfl⟩
  case round =>
    obtain ⟨k, hk, rfl, hf, q, rfl⟩ := hrel
    have HF : Hid (faultF s [] ((L.map It.e).take k) = 0) := hf
    clear hf
    by_cases hlt : k < L.length
    · have hz : (k : Int) < (L.length : Int) := by omega
      obtain ⟨e, he⟩ : ∃ e, L[k]? = some e := ⟨_, List.getElem?_eq_getElem hlt⟩
      have HE := refEntry_any HS.out (HL.out.here (below_draws (Below.refl _ _) q)) he
      by_cases h0 : faultAt s (prevK (L.map It.e) k) e.e = 0
      · have HN : Hid (faultF s [] ((L.map It.e).take (k + 1)) = 0) := faultF_take s [] (L.map It.e) k e.e (ents_get he) HF.out h0
        rw [h0] at HE
        clear h0 he
        go_wp2_with (go_at_call 69; refine HE.mono ?_; rintro r w' ⟨rfl, q', rfl⟩)
        exact ⟨⟨k + 1, by omega, by go_num, HN.out, _, rfl⟩, by simp [intOf]; omega⟩
      · have HN : Hid (faultE s (L.map It.e) = faultAt s (prevK (L.map It.e) k) e.e) := faultF_some s [] (L.map It.e) k e.e (ents_get he) HF.out h0
        generalize faultAt s (prevK (L.map It.e) k) e.e = A at *
        have hA : ((A : Int) != 0) = true := by simp; omega
        clear he
        go_wp2_with (go_at_call 69; refine HE.mono ?_; rintro r w' ⟨rfl, q', rfl⟩)
        go_ret
        exact ⟨by rw [HN.out]; rfl, _, rfl⟩
    · have hz : ¬ (k : Int) < (L.length : Int) := by omega
      have HE : Hid ((L.map It.e).take k = L.map It.e) := List.take_of_length_le (by simp; omega)
      have HF2 : Hid (faultE s (L.map It.e) = 0) := by have := HF.out; rw [HE.out] at this; exact this
      go_wp2
      go_ret
      exact ⟨by rw [HF2.out]; rfl, q, rfl⟩

theorem bytesE_leW {l : List En} (hw : weightE l ≤ 68719476736) : bytesE l ≤ 412316860418 := by
  have := bytesF_weight [] l; unfold bytesE; omega
set_option maxHeartbeats 1600000 in
set_option maxRecDepth 100000 in
theorem refBytes_any {w : World} {v : Value} {L : List It} (hL : ListAt w.heap.size w v L) (hw : weightE (L.map It.e) ≤ 68719476736) :
    Calls Try.prog 34 #[v] w fun r w' => r = .returned (.int .i64 (bytesE (L.map It.e) : Nat)) ∧ ∃ q, w' = w.drewN q := by
  have hsh := hL.short
  obtain ⟨a, c, rfl⟩ := hL.form
  have HL : Hid (ListAt w.heap.size w (.slice a L.length c) L) := hL
  clear hL
  go_enter Try.func34, Try.ntmps34
  go_wp2_with fail
  go_loopw [3, 4] (fun n i wx => ∃ k : Nat, k ≤ L.length ∧ i = .int .i64 k ∧ n = .int .i64 (bytesE ((L.map It.e).take k) : Nat) ∧ ∃ q, wx = w.drewN q) (fun _ i _ => L.length - (intOf i).toNat)
  case atStart => exact ⟨0, by omega, rfl, by simp [bytesE, bytesF], 0, rfl⟩
  case round =>
    obtain ⟨k, hk, rfl, rfl, q, rfl⟩ := hrel
    by_cases hlt : k < L.length
    · have hz : (k : Int) < (L.length : Int) := by omega
      obtain ⟨e, he⟩ : ∃ e, L[k]? = some e := ⟨_, List.getElem?_eq_getElem hlt⟩
      have HN : Hid (bytesE ((L.map It.e).take (k + 1)) = bytesE ((L.map It.e).take k) + enLen (prevK (L.map It.e) k) e.e) := bytesE_take (ents_get he)
      have hb : bytesE ((L.map It.e).take k) ≤ 412316860418 := bytesE_leW (Nat.le_trans (weightE_take (L.map It.e) k) hw)
      have hcr := comK_right (prevK (L.map It.e) k) e.e.k
      have hwm := weightE_mem (List.mem_of_getElem? (ents_get he))
      have heo := HL.out.ok e (List.mem_of_getElem? he)
      obtain ⟨a1, c1, f1⟩ := heo.k.form
      obtain ⟨a2, c2, f2⟩ := heo.v.form
      obtain ⟨g, off, c', e1, k0, k1⟩ := HL.out.cells k e he
      cases e1
      rw [f1] at k0
      rw [f2] at k1
      have HE : Hid (KeyAt w (.slice a1 e.e.k.length c1) e.e.k) := by have := heo.k.at (Nat.le_refl _); rw [f1] at this; exact this
      by_cases hk0 : k = 0
      · have HN2 : Hid (bytesE ((L.map It.e).take (k + 1)) = bytesE ((L.map It.e).take k) + (6 + e.e.k.length + e.e.v.length)) := by
          rw [Hid, HN.out, hk0, prevK_zero]; simp only [enLen, comK_nil]; omega
        have hi0 : ¬ (0 : Int) < (k : Int) := by omega
        have hi1 : ¬ 0 < k := by omega
        clear he heo f1 f2 hk0 hcr
        generalize bytesE ((L.map It.e).take k) = n at *
        go_wp2_with fail
        go_quiet (fail)
        go_wp2
        exact ⟨⟨k + 1, by omega, by go_num, by rw [HN2.out]; go_num, _, rfl⟩, by simp [intOf]; omega⟩
      · obtain ⟨j, hj⟩ : ∃ j : Nat, k = j + 1 := ⟨k - 1, by omega⟩
        have hn1 : (k : Int) - 1 = (j : Int) := by omega
        have hn2 : (j : Int) < (L.length : Int) := by omega
        have hi0 : (0 : Int) < (k : Int) := by omega
        have hi1 : 0 < k := by omega
        have hjw : IntKind.i64.wrap (j : Int) = (j : Int) := by
          have : (j : Int) ≤ 140737488355328 := by omega
          simp [IntKind.wrap, IntKind.bits, IntKind.signed]; omega
        obtain ⟨x, hx⟩ : ∃ x, L[j]? = some x := ⟨L[j]'(by omega), List.getElem?_eq_getElem _⟩
        have HP : Hid (prevK (L.map It.e) k = x.e.k) := by rw [Hid, hj]; exact prevK_succ (ents_get hx)
        obtain ⟨_, _, _, e1, m0, m1⟩ := HL.out.cells j x hx
        cases e1
        have HX : Hid (KeyAt w x.v1 x.e.k) := (HL.out.ok x (List.mem_of_getElem? hx)).k.at (Nat.le_refl _)
        rw [HP.out] at hcr HN
        have HN2 : Hid (bytesE ((L.map It.e).take (k + 1)) = bytesE ((L.map It.e).take k) + (6 + e.e.k.length - comK x.e.k e.e.k + e.e.v.length)) := HN.out
        clear he heo f1 f2 hk0 hj hx HN
        generalize bytesE ((L.map It.e).take k) = n at *
        go_wp2_with fail
        go_quiet (fail)
        go_wp2_with fail
        go_quiet (first
          | (go_at_call 59; refine (refCommon_key (HX.out.draws _) (HE.out.draws _)).mono ?_; rintro r' w'' ⟨rfl, p, rfl⟩; exact ⟨rfl, _, by rw [draws_add, Nat.add_assoc]⟩))
        go_wp2
        exact ⟨⟨k + 1, by omega, by go_num, by rw [HN2.out]; go_num, _, rfl⟩, by simp [intOf]; omega⟩
    · have hz : ¬ (k : Int) < (L.length : Int) := by omega
      have HE : Hid ((L.map It.e).take k = L.map It.e) := List.take_of_length_le (by simp; omega)
      go_wp2
      go_ret
      exact ⟨by rw [HE.out]; rfl, q, rfl⟩

theorem wrap_small {j : Nat} (h : j ≤ 140737488355328) : IntKind.i64.wrap (j : Int) = (j : Int) := by
  have : (j : Int) ≤ 140737488355328 := by omega
  simp [IntKind.wrap, IntKind.bits, IntKind.signed]; omega
set_option maxHeartbeats 3200000 in
set_option maxRecDepth 100000 in
theorem refSplit_any {w : World} {v : Value} {L : List It} {z : Int} (hL : ListAt w.heap.size w v L) (hw : weightE (L.map It.e) ≤ 4294967296) :
    Calls Try.prog 27 #[.int .i64 z, v] w fun r w' => r = .returned (.tuple #[.int .i64 ((splitE z (L.map It.e)).1 : Nat), .int .i64 ((splitE z (L.map It.e)).2 : Nat)]) ∧ ∃ q, w' = w.drewN q := by
  have hsh := hL.short
  obtain ⟨a, c, rfl⟩ := hL.form
  have HL : Hid (ListAt w.heap.size w (.slice a L.length c) L) := hL
  clear hL
  by_cases hz : Sized z
  · have hzz := sized_le hz
    obtain ⟨s, rfl⟩ : ∃ s : Nat, z = (s : Int) := ⟨z.toNat, by rcases hz with rfl | rfl | rfl | rfl <;> rfl⟩
    have hs : s = 512 ∨ s = 1024 ∨ s = 2048 ∨ s = 4096 := by rcases hz with h | h | h | h <;> omega
    rw [Int.toNat_natCast] at hzz
    have HSZ : Hid (∀ w, Calls Try.prog 45 #[.int .i64 (s : Int)] w fun r w' => r = .returned (.bool true) ∧ ∃ q, w' = w.drewN q) := fun w => by
      have := refSized_any w (s : Int); rw [decide_eq_true hz] at this; exact this
    by_cases h2 : L.length < 2
    · have h2z : (L.length : Int) < 2 := by omega
      have HR : Hid (splitE (s : Int) (L.map It.e) = (0, 1)) := by unfold Hid splitE; rw [if_pos (.inr (by simpa using h2))]
      clear hz hw hs
      go_enter Try.func27, Try.ntmps27
      go_wp2_with (go_at_call 45; refine (HSZ.out _).mono ?_; rintro r w' ⟨rfl, q, rfl⟩)
      go_ret2
      exact ⟨by rw [HR.out]; rfl, _, rfl⟩
    · have h2z : ¬ (L.length : Int) < 2 := by omega
      have HSP : Hid (splitE (s : Int) (L.map It.e) = if faultE s (L.map It.e) ≠ 0 then (0, faultE s (L.map It.e)) else if s - 32 < (bestE (L.map It.e) (L.length - 1)).2 then (0, 54) else ((bestE (L.map It.e) (L.length - 1)).1, 0)) := by
        unfold Hid splitE
        rw [if_neg (by simp; exact ⟨hz, by omega⟩), List.length_map, Int.toNat_natCast]
      have HFT : Hid (∀ q, Calls Try.prog 58 #[.int .i64 (s : Int), .slice a L.length c] (w.drewN q) fun r w'' => r = .returned (.int .i64 (faultE s (L.map It.e) : Nat)) ∧ ∃ p, w'' = (w.drewN q).drewN p) := fun q => refEntries_any hs (HL.out.here (below_draws (Below.refl _ _) q))
      clear hz hs
      by_cases hF : faultE s (L.map It.e) = 0
      · rw [hF] at HFT
        have HBY : Hid (∀ q, Calls Try.prog 34 #[.slice a L.length c] (w.drewN q) fun r w'' => r = .returned (.int .i64 (bytesE (L.map It.e) : Nat)) ∧ ∃ p, w'' = (w.drewN q).drewN p) := fun q => refBytes_any (HL.out.here (below_draws (Below.refl _ _) q)) (Nat.le_trans hw (by decide))
        go_enter Try.func27, Try.ntmps27
        go_wp2_with (first
          | (go_at_call 45; refine (HSZ.out _).mono ?_; rintro r w' ⟨rfl, q, rfl⟩)
          | (go_at_call 58; refine (HFT.out _).mono ?_; rintro r w' ⟨rfl, q2, rfl⟩)
          | (go_at_call 34; refine (HBY.out _).mono ?_; rintro r w' ⟨rfl, q3, rfl⟩))
        obtain ⟨l, hl⟩ : ∃ l, l = L.map It.e := ⟨_, rfl⟩
        have HLE : Hid (l = L.map It.e) := hl
        rw [← hl]
        have hw' : weightE l ≤ 4294967296 := by rw [hl]; exact hw
        clear hl
        go_loopw [9, 10, 11, 12] (fun fi st le n wx => ∃ m q : Nat, m + 1 ≤ L.length ∧ n = .int .i64 ((m + 1 : Nat) : Int) ∧ fi = .int .i64 (bytesE (l.take m) : Nat) ∧ st = .int .i64 ((bestE l m).1 : Nat) ∧ le = .int .i64 ((bestE l m).2 : Nat) ∧ wx = w.drewN q) (fun _ _ _ n _ => L.length - (intOf n).toNat)
        case atStart => exact ⟨0, _, by omega, rfl, by simp [bytesE, bytesF], rfl, rfl, rfl⟩
        case round =>
          obtain ⟨m, q, hm, rfl, rfl, rfl, rfl, rfl⟩ := hrel
          have hbl := bytesE_le hw'
          have hbt := bytesE_le (l := l.take m) (Nat.le_trans (weightE_take l m) hw')
          have hbest := bestE_le l m 25769803780 (halfE_le hw')
          by_cases hlt : m + 1 < L.length
          · obtain ⟨n, hn⟩ : ∃ n, n = m + 1 := ⟨_, rfl⟩
            have hzl : (n : Int) < (L.length : Int) := by omega
            obtain ⟨e, he⟩ : ∃ e, L[m]? = some e := ⟨_, List.getElem?_eq_getElem (by omega)⟩
            obtain ⟨e', he'⟩ : ∃ e', L[m + 1]? = some e' := ⟨_, List.getElem?_eq_getElem hlt⟩
            have hge : l[m]? = some e.e := by rw [HLE.out]; exact ents_get he
            have hge' : l[m + 1]? = some e'.e := by rw [HLE.out]; exact ents_get he'
            have HT := bytesE_take hge
            obtain ⟨HC1, HC2⟩ := bytes_cut hge'
            have hpv : prevK l (m + 1) = e.e.k := prevK_succ hge
            have hcr := comK_right (prevK l m) e.e.k
            have hcr2 := comK_right e.e.k e'.e.k
            have hwm := weightE_mem (List.mem_of_getElem? hge)
            have hwm' := weightE_mem (List.mem_of_getElem? hge')
            have HH : Hid (halfE l (m + 1) = max (bytesE (l.take m) + (6 + e.e.k.length - comK (prevK l m) e.e.k + e.e.v.length)) (bytesE l + 2 - (bytesE (l.take m) + (6 + e.e.k.length - comK (prevK l m) e.e.k + e.e.v.length)) + comK e.e.k e'.e.k)) := by
              unfold Hid halfE
              rw [HC1, HT, hpv]
              rfl
            have HBS : Hid (bestE l (m + 1) = if (bestE l m).1 = 0 ∨ halfE l (m + 1) < (bestE l m).2 then (m + 1, halfE l (m + 1)) else bestE l m) := rfl
            have HNT : Hid (bytesE (l.take (m + 1)) = bytesE (l.take m) + (6 + e.e.k.length - comK (prevK l m) e.e.k + e.e.v.length)) := HT
            rw [HT] at HC2
            unfold enLen at HC2
            have heo := HL.out.ok e (List.mem_of_getElem? he)
            obtain ⟨a1, c1, f1⟩ := heo.k.form
            obtain ⟨a2, c2, f2⟩ := heo.v.form
            obtain ⟨g, off, c', e1, k0, k1⟩ := HL.out.cells m e he
            cases e1
            rw [f1] at k0
            rw [f2] at k1
            have HE : Hid (KeyAt w (.slice a1 e.e.k.length c1) e.e.k) := by have := heo.k.at (Nat.le_refl _); rw [f1] at this; exact this
            obtain ⟨_, _, _, e1, n0, n1⟩ := HL.out.cells (m + 1) e' he'
            cases e1
            rw [← hn] at n0 n1
            have HE' : Hid (KeyAt w e'.v1 e'.e.k) := (HL.out.ok e' (List.mem_of_getElem? he')).k.at (Nat.le_refl _)
            have hn1 : (n : Int) - 1 = (m : Int) := by omega
            have hmz : (m : Int) < (L.length : Int) := by omega
            have hmw := wrap_small (j := m) (by omega)
            have HNM : Hid (n = m + 1) := hn
            rw [← hn]
            generalize hhf : halfE l (m + 1) = hf at *
            generalize bestE l m = bm at *
            obtain ⟨st, le⟩ := bm
            simp only at hbest HBS ⊢
            clear hhf heo f1 f2 he' hge hge' HT HC1 hpv
            by_cases hm0 : m = 0
            · have HP0 : Hid (comK (prevK l m) e.e.k = 0) := by rw [Hid, hm0, prevK_zero, comK_nil]
              have hi0 : ¬ (1 : Int) < (n : Int) := by omega
              have hi1 : ¬ 1 < n := by omega
              rw [HP0.out] at HH HNT HC2 hcr
              have HCO : Hid (∀ q, Calls Try.prog 59 #[.slice a1 e.e.k.length c1, e'.v1] (w.drewN q) fun r w' => r = .returned (.int .i64 (comK e.e.k e'.e.k : Nat)) ∧ ∃ p, w' = (w.drewN q).drewN p) := fun q => refCommon_key (HE.out.draws q) (HE'.out.draws q)
              generalize bytesE (l.take m) = A at *
              generalize bytesE l = T at *
              generalize hC : comK e.e.k e'.e.k = C at *
              have hmx : (if (A : Int) + 6 + (e.e.k.length : Int) + (e.e.v.length : Int) < 2 + (T : Int) - ((A : Int) + 6 + (e.e.k.length : Int) + (e.e.v.length : Int)) + (C : Int) then 2 + (T : Int) - ((A : Int) + 6 + (e.e.k.length : Int) + (e.e.v.length : Int)) + (C : Int) else (A : Int) + 6 + (e.e.k.length : Int) + (e.e.v.length : Int)) = (hf : Int) := by
                rw [HH.out]
                split <;> omega
              clear he hm0 hn hC
              by_cases hst : st = 0
              · have HX : Hid (bestE l (m + 1) = (m + 1, hf)) := by rw [Hid, HBS.out, if_pos (.inl hst)]
                have hs1 : ((st : Int) == 0) = true := by simp [hst]
                clear hst HBS
                go_wp2_with fail
                go_quiet (fail)
                go_wp2_with fail
                go_quiet (first
                    | (go_at_call 59; refine (HCO.out _).mono ?_; rintro r' w'' ⟨rfl, p, rfl⟩; exact ⟨rfl, _, by rw [draws_add, Nat.add_assoc]⟩))
                go_wp2
                all_goals
                  first
                    | (rw [hmx] at *)
                    | skip
                  first
                    | (exfalso; omega)
                    | (refine ⟨⟨m + 1, _, by omega, by have := HNM.out; go_num, ?_, ?_, ?_, rfl⟩, by have := HNM.out; simp [intOf]; omega⟩
                       · rw [HNT.out]; exact congrArg _ (by omega)
                       · rw [HX.out]; try first | rfl | (rw [HNM.out])
                       · rw [HX.out]; try first | rfl | exact congrArg _ hmx)
              · have hs1 : ((st : Int) == 0) = false := by rw [beq_eq_false_iff_ne]; omega
                by_cases hlf : hf < le
                · have HX : Hid (bestE l (m + 1) = (m + 1, hf)) := by rw [Hid, HBS.out, if_pos (.inr hlf)]
                  have hs2 : (hf : Int) < (le : Int) := by omega
                  clear hst HBS
                  go_wp2_with fail
                  go_quiet (fail)
                  go_wp2_with fail
                  go_quiet (first
                      | (go_at_call 59; refine (HCO.out _).mono ?_; rintro r' w'' ⟨rfl, p, rfl⟩; exact ⟨rfl, _, by rw [draws_add, Nat.add_assoc]⟩))
                  go_wp2
                  all_goals
                    first
                      | (rw [hmx] at *)
                      | skip
                    first
                      | (exfalso; omega)
                      | (refine ⟨⟨m + 1, _, by omega, by have := HNM.out; go_num, ?_, ?_, ?_, rfl⟩, by have := HNM.out; simp [intOf]; omega⟩
                         · rw [HNT.out]; exact congrArg _ (by omega)
                         · rw [HX.out]; try first | rfl | (rw [HNM.out])
                         · rw [HX.out]; try first | rfl | exact congrArg _ hmx)
                · have HX : Hid (bestE l (m + 1) = (st, le)) := by rw [Hid, HBS.out, if_neg (fun h => by rcases h with h | h; exact hst h; exact hlf h)]
                  have hs2 : ¬ (hf : Int) < (le : Int) := by omega
                  clear hst HBS
                  go_wp2_with fail
                  go_quiet (fail)
                  go_wp2_with fail
                  go_quiet (first
                      | (go_at_call 59; refine (HCO.out _).mono ?_; rintro r' w'' ⟨rfl, p, rfl⟩; exact ⟨rfl, _, by rw [draws_add, Nat.add_assoc]⟩))
                  go_wp2
                  all_goals
                    first
                      | (rw [hmx] at *)
                      | skip
                    first
                      | (exfalso; omega)
                      | (refine ⟨⟨m + 1, _, by omega, by have := HNM.out; go_num, ?_, ?_, ?_, rfl⟩, by have := HNM.out; simp [intOf]; omega⟩
                         · rw [HNT.out]; exact congrArg _ (by omega)
                         · rw [HX.out]; try first | rfl | (rw [HNM.out])
                         · rw [HX.out]; try first | rfl | exact congrArg _ hmx)
            · obtain ⟨j, hj⟩ : ∃ j : Nat, m = j + 1 := ⟨m - 1, by omega⟩
              have hn2 : (n : Int) - 2 = (j : Int) := by omega
              have hjz : (j : Int) < (L.length : Int) := by omega
              have hjw := wrap_small (j := j) (by omega)
              have hi0 : (1 : Int) < (n : Int) := by omega
              have hi1 : 1 < n := by omega
              obtain ⟨x, hx⟩ : ∃ x, L[j]? = some x := ⟨L[j]'(by omega), List.getElem?_eq_getElem _⟩
              have hpx : prevK l m = x.e.k := by rw [HLE.out, hj]; exact prevK_succ (ents_get hx)
              obtain ⟨_, _, _, e1, p0, p1⟩ := HL.out.cells j x hx
              cases e1
              have HXK : Hid (KeyAt w x.v1 x.e.k) := (HL.out.ok x (List.mem_of_getElem? hx)).k.at (Nat.le_refl _)
              rw [hpx] at HH HNT HC2 hcr
              have HCO : Hid (∀ q, Calls Try.prog 59 #[.slice a1 e.e.k.length c1, e'.v1] (w.drewN q) fun r w' => r = .returned (.int .i64 (comK e.e.k e'.e.k : Nat)) ∧ ∃ p, w' = (w.drewN q).drewN p) := fun q => refCommon_key (HE.out.draws q) (HE'.out.draws q)
              have HCP : Hid (∀ q, Calls Try.prog 59 #[x.v1, .slice a1 e.e.k.length c1] (w.drewN q) fun r w' => r = .returned (.int .i64 (comK x.e.k e.e.k : Nat)) ∧ ∃ p, w' = (w.drewN q).drewN p) := fun q => refCommon_key (HXK.out.draws q) (HE.out.draws q)
              generalize bytesE (l.take m) = A at *
              generalize bytesE l = T at *
              generalize comK e.e.k e'.e.k = C at *
              generalize comK x.e.k e.e.k = D at *
              have hmx : (if (A : Int) + 6 + (e.e.k.length : Int) + (e.e.v.length : Int) - (D : Int) < 2 + (T : Int) - ((A : Int) + 6 + (e.e.k.length : Int) + (e.e.v.length : Int) - (D : Int)) + (C : Int) then 2 + (T : Int) - ((A : Int) + 6 + (e.e.k.length : Int) + (e.e.v.length : Int) - (D : Int)) + (C : Int) else (A : Int) + 6 + (e.e.k.length : Int) + (e.e.v.length : Int) - (D : Int)) = (hf : Int) := by
                rw [HH.out]
                split <;> omega
              clear he hx hm0 hn hj hpx
              by_cases hst : st = 0
              · have HX : Hid (bestE l (m + 1) = (m + 1, hf)) := by rw [Hid, HBS.out, if_pos (.inl hst)]
                have hs1 : ((st : Int) == 0) = true := by simp [hst]
                clear hst HBS
                go_wp2_with fail
                go_quiet (fail)
                go_wp2_with fail
                go_quiet (first
                    | (go_at_call 59; refine (HCP.out _).mono ?_; rintro r' w'' ⟨rfl, p, rfl⟩; exact ⟨rfl, _, by rw [draws_add, Nat.add_assoc]⟩))
                go_wp2_with fail
                go_quiet (first
                    | (go_at_call 59; refine (HCO.out _).mono ?_; rintro r' w'' ⟨rfl, p, rfl⟩; exact ⟨rfl, _, by rw [draws_add, Nat.add_assoc]⟩))
                go_wp2
                all_goals
                  first
                    | (rw [hmx] at *)
                    | skip
                  first
                    | (exfalso; omega)
                    | (refine ⟨⟨m + 1, _, by omega, by have := HNM.out; go_num, ?_, ?_, ?_, rfl⟩, by have := HNM.out; simp [intOf]; omega⟩
                       · rw [HNT.out]; exact congrArg _ (by omega)
                       · rw [HX.out]; try first | rfl | (rw [HNM.out])
                       · rw [HX.out]; try first | rfl | exact congrArg _ hmx)
              · have hs1 : ((st : Int) == 0) = false := by rw [beq_eq_false_iff_ne]; omega
                by_cases hlf : hf < le
                · have HX : Hid (bestE l (m + 1) = (m + 1, hf)) := by rw [Hid, HBS.out, if_pos (.inr hlf)]
                  have hs2 : (hf : Int) < (le : Int) := by omega
                  clear hst HBS
                  go_wp2_with fail
                  go_quiet (fail)
                  go_wp2_with fail
                  go_quiet (first
                      | (go_at_call 59; refine (HCP.out _).mono ?_; rintro r' w'' ⟨rfl, p, rfl⟩; exact ⟨rfl, _, by rw [draws_add, Nat.add_assoc]⟩))
                  go_wp2_with fail
                  go_quiet (first
                      | (go_at_call 59; refine (HCO.out _).mono ?_; rintro r' w'' ⟨rfl, p, rfl⟩; exact ⟨rfl, _, by rw [draws_add, Nat.add_assoc]⟩))
                  go_wp2
                  all_goals
                    first
                      | (rw [hmx] at *)
                      | skip
                    first
                      | (exfalso; omega)
                      | (refine ⟨⟨m + 1, _, by omega, by have := HNM.out; go_num, ?_, ?_, ?_, rfl⟩, by have := HNM.out; simp [intOf]; omega⟩
                         · rw [HNT.out]; exact congrArg _ (by omega)
                         · rw [HX.out]; try first | rfl | (rw [HNM.out])
                         · rw [HX.out]; try first | rfl | exact congrArg _ hmx)
                · have HX : Hid (bestE l (m + 1) = (st, le)) := by rw [Hid, HBS.out, if_neg (fun h => by rcases h with h | h; exact hst h; exact hlf h)]
                  have hs2 : ¬ (hf : Int) < (le : Int) := by omega
                  clear hst HBS
                  go_wp2_with fail
                  go_quiet (fail)
                  go_wp2_with fail
                  go_quiet (first
                      | (go_at_call 59; refine (HCP.out _).mono ?_; rintro r' w'' ⟨rfl, p, rfl⟩; exact ⟨rfl, _, by rw [draws_add, Nat.add_assoc]⟩))
                  go_wp2_with fail
                  go_quiet (first
                      | (go_at_call 59; refine (HCO.out _).mono ?_; rintro r' w'' ⟨rfl, p, rfl⟩; exact ⟨rfl, _, by rw [draws_add, Nat.add_assoc]⟩))
                  go_wp2
                  all_goals
                    first
                      | (rw [hmx] at *)
                      | skip
                    first
                      | (exfalso; omega)
                      | (refine ⟨⟨m + 1, _, by omega, by have := HNM.out; go_num, ?_, ?_, ?_, rfl⟩, by have := HNM.out; simp [intOf]; omega⟩
                         · rw [HNT.out]; exact congrArg _ (by omega)
                         · rw [HX.out]; try first | rfl | (rw [HNM.out])
                         · rw [HX.out]; try first | rfl | exact congrArg _ hmx)
          · have hzl : ¬ ((m + 1 : Nat) : Int) < (L.length : Int) := by omega
            have HM : Hid (m = L.length - 1) := by unfold Hid; omega
            by_cases hroom : s - 32 < (bestE l m).2
            · have hrz : (s : Int) - 32 < ((bestE l m).2 : Int) := by omega
              have HR : Hid (splitE (s : Int) (L.map It.e) = (0, 54)) := by rw [Hid, HSP.out, ← HLE.out, ← HM.out, if_neg (by rw [HLE.out]; simpa using hF), if_pos hroom]
              generalize bestE l m = bm at *
              obtain ⟨st, le⟩ := bm
              simp only at hrz hbest ⊢
              go_wp2
              go_ret2
              exact ⟨by rw [HR.out]; rfl, _, rfl⟩
            · have hrz : ¬ (s : Int) - 32 < ((bestE l m).2 : Int) := by omega
              have HR : Hid (splitE (s : Int) (L.map It.e) = ((bestE l m).1, 0)) := by rw [Hid, HSP.out, ← HLE.out, ← HM.out, if_neg (by rw [HLE.out]; simpa using hF), if_neg hroom]
              generalize bestE l m = bm at *
              obtain ⟨st, le⟩ := bm
              simp only at hrz hbest ⊢
              go_wp2
              go_ret2
              exact ⟨by rw [HR.out]; rfl, _, rfl⟩
      · have hFz : ((faultE s (L.map It.e) : Int) != 0) = true := by simp; omega
        have HR : Hid (splitE (s : Int) (L.map It.e) = (0, faultE s (L.map It.e))) := by rw [Hid, HSP.out, if_pos hF]
        clear HSP hF hw
        go_enter Try.func27, Try.ntmps27
        go_wp2_with (first
          | (go_at_call 45; refine (HSZ.out _).mono ?_; rintro r w' ⟨rfl, q, rfl⟩)
          | (go_at_call 58; refine (HFT.out _).mono ?_; rintro r w' ⟨rfl, q2, rfl⟩))
        go_ret2
        exact ⟨by rw [HR.out]; rfl, _, rfl⟩
  · have HSZ : Hid (∀ w, Calls Try.prog 45 #[.int .i64 z] w fun r w' => r = .returned (.bool false) ∧ ∃ q, w' = w.drewN q) := fun w => by
      have := refSized_any w z; rw [decide_eq_false hz] at this; exact this
    have HR : Hid (splitE z (L.map It.e) = (0, 1)) := by unfold Hid splitE; rw [if_pos (.inl hz)]
    clear hz hw
    go_enter Try.func27, Try.ntmps27
    go_wp2_with (go_at_call 45; refine (HSZ.out _).mono ?_; rintro r w' ⟨rfl, q, rfl⟩)
    go_ret2
    exact ⟨by rw [HR.out]; rfl, _, rfl⟩
end Go.Proofs.Ytgifnaahahfhbaa
