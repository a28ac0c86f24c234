/- Split. -/
import Derived.Test.YtgifnaahahfhbaaBytes
namespace Go.Proofs.Ytgifnaahahfhbaa
open Go.RowKit

/-- The greater half, if so many stay. -/
def halfE (l : List En) (n : Nat) : Nat := max (bytesE (l.take n)) (bytesE (l.drop n))
/-- Of the numbers up to m the best. -/
def bestE (l : List En) : Nat → Nat × Nat
  | 0 => (0, 0)
  | m + 1 => if (bestE l m).1 = 0 ∨ halfE l (m + 1) < (bestE l m).2 then (m + 1, halfE l (m + 1)) else bestE l m
/-- Split's two answers. -/
def splitE (z : Int) (l : List En) : Nat × Nat :=
  if ¬ Sized z ∨ l.length < 2 then (0, 1) else if faultE z.toNat l ≠ 0 then (0, faultE z.toNat l) else
    if z.toNat - 32 < (bestE l (l.length - 1)).2 then (0, 54) else ((bestE l (l.length - 1)).1, 0)
theorem bytesF_split (p : Key) (l : List En) (n : Nat) : bytesF p l = bytesF p (l.take n) + bytesF (prevF p l n) (l.drop n) := by
  induction l generalizing p n with
  | nil => cases n <;> simp [bytesF, prevF]
  | cons x r ih =>
    cases n with
    | zero => simp [bytesF, prevF]
    | succ n => simp only [List.take_succ_cons, List.drop_succ_cons, bytesF, prevF, ih x.k n]; omega
theorem bytesF_whole (p : Key) (e : En) (r : List En) : bytesF p (e :: r) + comK p e.k = bytesF [] (e :: r) := by
  have := comK_right p e.k
  simp only [bytesF, enLen, comK_nil]
  omega
theorem bytes_cut {l : List En} {n : Nat} {e : En} (h : l[n]? = some e) : bytesE (l.drop n) = bytesE l + 2 - bytesE (l.take n) + comK (prevK l n) e.k ∧ bytesE (l.take n) ≤ bytesE l := by
  have h1 := bytesF_split [] l n
  have h2 : l.drop n = e :: l.drop (n + 1) := by
    obtain ⟨hn, he⟩ := List.getElem?_eq_some_iff.1 h
    rw [List.drop_eq_getElem_cons hn, he]
  have h3 := bytesF_whole (prevF [] l n) e (l.drop (n + 1))
  rw [← h2] at h3
  unfold bytesE prevK
  omega
theorem bestE_le (l : List En) (m B : Nat) (h : ∀ n, halfE l n ≤ B) : (bestE l m).1 ≤ m ∧ (bestE l m).2 ≤ B := by
  induction m with
  | zero => exact ⟨Nat.le_refl _, Nat.zero_le _⟩
  | succ m ih =>
    unfold bestE
    split
    · exact ⟨Nat.le_refl _, h _⟩
    · exact ⟨by omega, ih.2⟩
theorem weightE_drop (l : List En) (i : Nat) : weightE (l.drop i) ≤ weightE l := by
  induction l generalizing i with
  | nil => simp
  | cons e r ih => cases i with
    | zero => simp
    | succ i => have := ih i; rw [List.drop_succ_cons]; simp only [weightE]; omega
theorem bytesE_le {l : List En} (hw : weightE l ≤ 4294967296) : bytesE l ≤ 25769803780 := by
  have := bytesF_weight [] l; unfold bytesE; omega
theorem halfE_le {l : List En} (hw : weightE l ≤ 4294967296) (n : Nat) : halfE l n ≤ 25769803780 := by
  have h1 := bytesE_le (l := l.take n) (Nat.le_trans (weightE_take l n) hw)
  have h2 := bytesE_le (l := l.drop n) (Nat.le_trans (weightE_drop l n) hw)
  unfold halfE; omega

set_option maxHeartbeats 1600000 in
set_option maxRecDepth 100000 in
theorem split_any {w : World} {v : Value} {L : List It} {z : Int} (hL : ListAt w.heap.size w v L) (hw : weightE (L.map It.e) ≤ 4294967296) :
    Calls Try.prog 26 #[.int .i64 z, v] w fun r w' => r = .returned (.tuple #[.int .i64 ((splitE z (L.map It.e)).1 : Nat), .int .i64 ((splitE z (L.map It.e)).2 : Nat)]) ∧ Below w.heap.size w w' := by
  have hsh := hL.short
  obtain ⟨a, c, rfl⟩ := hL.form
  have HL : Hid (ListAt w.heap.size w (.slice a L.length c) L) := hL
  have HRO : Hid (∀ w, Calls Try.prog 40 #[.int .i64 z] w fun r w' => r = .returned (.int .i64 (if Sized z then z - 32 else 0)) ∧ ∃ q, w' = w.drewN q) := fun w => roomOf_any w z
  clear hL
  by_cases hz : Sized z
  · have hzz := sized_le hz
    have hzn : (z - 32 == 0) = false := by rw [beq_eq_false_iff_ne]; omega
    have HRO' : Hid (∀ w, Calls Try.prog 40 #[.int .i64 z] w fun r w' => r = .returned (.int .i64 (z - 32)) ∧ ∃ q, w' = w.drewN q) := by
      intro w; have := HRO.out w; rw [if_pos hz] at this; exact this
    by_cases h2 : L.length < 2
    · have h2z : (L.length : Int) < 2 := by omega
      have HR : Hid (splitE z (L.map It.e) = (0, 1)) := by unfold Hid splitE; rw [if_pos (.inr (by simpa using h2))]
      clear hz HRO hw
      go_enter Try.func26, Try.ntmps26
      go_wp2_with (go_at_call 40; refine (HRO'.out _).mono ?_; rintro r w' ⟨rfl, q, rfl⟩)
      go_ret2
      exact ⟨by rw [HR.out]; rfl, below_draws (Below.refl _ _) _⟩
    · have h2z : ¬ (L.length : Int) < 2 := by omega
      have HSP : Hid (splitE z (L.map It.e) = if faultE z.toNat (L.map It.e) ≠ 0 then (0, faultE z.toNat (L.map It.e)) else if z.toNat - 32 < (bestE (L.map It.e) (L.length - 1)).2 then (0, 54) else ((bestE (L.map It.e) (L.length - 1)).1, 0)) := by
        unfold Hid splitE
        rw [if_neg (by simp; exact ⟨hz, by omega⟩), List.length_map]
      have HFT : Hid (∀ w', Below w.heap.size w w' → Calls Try.prog 55 #[.int .i64 z, .slice a L.length c] w' fun r w'' => r = .returned (.int .i64 (faultE z.toNat (L.map It.e) : Nat)) ∧ Below w'.heap.size w' w'') := fun w' hb => fault_any hz (HL.out.here hb)
      by_cases hF : faultE z.toNat (L.map It.e) = 0
      · rw [hF] at HFT
        have HBY : Hid (∀ w', Below w.heap.size w w' → Calls Try.prog 31 #[.slice a L.length c] w' fun r w'' => r = .returned (.int .i64 (bytesE (L.map It.e) : Nat)) ∧ ∃ q, w'' = w'.drewN q) := fun w' hb => bytes_any (HL.out.here hb) hw
        have HBN : Hid (∀ w', Calls Try.prog 31 #[.slice none 0 0] w' fun r w'' => r = .returned (.int .i64 2) ∧ ∃ q, w'' = w'.drewN q) := fun w' => bytes_any (ListAt.nil w'.heap.size w') (by decide)
        clear hz HRO
        go_enter Try.func26, Try.ntmps26
        go_wp2_with (first
          | (go_at_call 40; refine (HRO'.out _).mono ?_; rintro r w' ⟨rfl, q, rfl⟩)
          | (go_at_call 55; refine (HFT.out _ (below_draws (Below.refl _ _) q)).mono ?_; rintro r w2 ⟨rfl, hb2⟩
             have HB2 : Hid (Below w.heap.size w w2) := (below_draws (Below.refl _ _) q).trans (hb2.mono (Nat.le_refl _))
             clear hb2))
        refine (HBN.out _).mono ?_
        rintro r w3 ⟨rfl, q3, rfl⟩
        go_wp2_with fail
        refine (HBY.out _ (below_draws HB2.out q3)).mono ?_
        rintro r w4 ⟨rfl, q4, rfl⟩
        have HB4 : Hid (Below w.heap.size w ((w2.drewN q3).drewN q4)) := below_draws (below_draws HB2.out q3) q4
        go_wp2_with fail
        obtain ⟨l, hl⟩ : ∃ l, l = L.map It.e := ⟨_, rfl⟩
        have HLE : Hid (l = L.map It.e) := hl
        rw [← hl]
        have hw' : weightE l ≤ 4294967296 := by rw [hl]; exact hw
        have HLN : Hid (l.length = L.length) := by rw [Hid, hl]; simp
        clear hl
        go_loopw [7, 8, 9, 10, 11] (fun st le fi ot n wx => ∃ m q : Nat, m + 1 ≤ L.length ∧ n = .int .i64 ((m + 1 : Nat) : Int) ∧ st = .int .i64 ((bestE l m).1 : Nat) ∧ le = .int .i64 ((bestE l m).2 : Nat) ∧ fi = .int .i64 (bytesE (l.take m) : Nat) ∧ ot = .int .i64 ((bytesE l + 2 - bytesE (l.take m) : Nat) : Int) ∧ wx = w2.drewN q) (fun _ _ _ _ n _ => L.length - (intOf n).toNat)
        case atStart => exact ⟨0, q3 + q4, by omega, rfl, rfl, rfl, by simp [bytesE, bytesF], by simp [bytesE, bytesF], rfl⟩
        case round =>
          obtain ⟨m, q, hm, rfl, rfl, rfl, rfl, rfl, rfl⟩ := hrel
          have hbl := bytesE_le hw'
          have hbt := bytesE_le (l := l.take m) (Nat.le_trans (weightE_take l m) hw')
          have hbest := bestE_le l m 25769803780 (halfE_le hw')
          by_cases hlt : m + 1 < L.length
          · have hzl : ((m + 1 : Nat) : Int) < (L.length : Int) := by omega
            obtain ⟨e, he⟩ : ∃ e, L[m]? = some e := ⟨_, List.getElem?_eq_getElem (by omega)⟩
            obtain ⟨e', he'⟩ : ∃ e', L[m + 1]? = some e' := ⟨_, List.getElem?_eq_getElem hlt⟩
            have hB : ∀ q', Below w.heap.size w (w2.drewN q') := fun q' => below_draws HB2.out q'
            have HBA : Hid (∀ q', Calls Try.prog 56 #[.slice a L.length c, .int .i64 m] (w2.drewN q') fun r w'' => r = .returned (.int .i64 (enLen (prevK l m) e.e : Nat)) ∧ ∃ p, w'' = (w2.drewN q').drewN p) := fun q' => by
              have := bytesAt_any (HL.out.here (hB q')) he
              rw [← HLE.out] at this
              exact this
            have HAL : Hid (∀ q', Calls Try.prog 57 #[.slice a L.length c, .int .i64 ((m : Int) + 1)] (w2.drewN q') fun r w'' => r = .returned (.int .i64 (comK (prevK l (m + 1)) e'.e.k : Nat)) ∧ ∃ p, w'' = (w2.drewN q').drewN p) := fun q' => by
              have := alike_any (HL.out.here (hB q')) he'
              rw [← HLE.out] at this
              exact this
            have hge : l[m]? = some e.e := by rw [HLE.out]; exact ents_get he
            have hge' : l[m + 1]? = some e'.e := by rw [HLE.out]; exact ents_get he'
            have HT := bytesE_take hge
            obtain ⟨HC1, HC2⟩ := bytes_cut hge'
            have hhalf := halfE_le hw' (m + 1)
            have HH : Hid (halfE l (m + 1) = max (bytesE (l.take m) + enLen (prevK l m) e.e) (bytesE l + 2 - bytesE (l.take m) - enLen (prevK l m) e.e + comK (prevK l (m + 1)) e'.e.k)) := by
              unfold Hid halfE
              rw [HC1, HT]
              congr 1
              omega
            have HBS : Hid (bestE l (m + 1) = if (bestE l m).1 = 0 ∨ halfE l (m + 1) < (bestE l m).2 then (m + 1, halfE l (m + 1)) else bestE l m) := rfl
            have HNT : Hid (bytesE (l.take (m + 1)) = bytesE (l.take m) + enLen (prevK l m) e.e) := HT
            have hsub : enLen (prevK l m) e.e ≤ bytesE l + 2 - bytesE (l.take m) := by omega
            have hcle : comK (prevK l (m + 1)) e'.e.k ≤ 25769803780 := by
              have h1 := comK_right (prevK l (m + 1)) e'.e.k
              have h2 := weightE_mem (List.mem_of_getElem? hge')
              omega
            rw [HT] at HC2
            clear he he' hge hge' HT HC1 hB
            generalize bytesE (l.take m) = A at *
            generalize enLen (prevK l m) e.e = D at *
            generalize comK (prevK l (m + 1)) e'.e.k = C at *
            generalize bytesE l = T at *
            generalize halfE l (m + 1) = hf at *
            generalize bestE l m = bm at *
            obtain ⟨st, le⟩ := bm
            simp only at hbest HBS ⊢
            have hmx : (if (A : Int) + (D : Int) < ((T + 2 - A : Nat) : Int) - (D : Int) + (C : Int) then ((T + 2 - A : Nat) : Int) - (D : Int) + (C : Int) else (A : Int) + (D : Int)) = (hf : Int) := by
              rw [HH.out]
              split <;> omega
            by_cases hst : st = 0
            · have HX : Hid (bestE l (m + 1) = (m + 1, hf)) := by rw [Hid, HBS.out, if_pos (.inl hst)]
              have hs1 : ((st : Int) == 0) = true := by simp [hst]
              have HST : Hid (st = 0) := hst
              clear hst HBS
              go_wp2_with (first
                | (go_at_call 56; refine (HBA.out _).mono ?_; rintro r w5 ⟨rfl, q5, rfl⟩)
                | (go_at_call 57; refine (HAL.out _).mono ?_; rintro r w5 ⟨rfl, q5, rfl⟩))
              all_goals
                first
                  | (rw [hmx] at *)
                  | skip
                first
                  | (exfalso; omega)
                  | (refine ⟨⟨m + 1, _, by omega, by go_num, ?_, ?_, ?_, ?_, rfl⟩, by simp [intOf]; omega⟩
                     · rw [HX.out]; try first | rfl | go_num
                     · rw [HX.out]; try first | rfl | exact congrArg _ hmx
                     · rw [HNT.out]; go_num
                     · rw [HNT.out]; exact congrArg _ (by omega))
            · have hs1 : ((st : Int) == 0) = false := by rw [beq_eq_false_iff_ne]; omega
              by_cases hlf : hf < le
              · have HX : Hid (bestE l (m + 1) = (m + 1, hf)) := by rw [Hid, HBS.out, if_pos (.inr hlf)]
                have hs2 : (hf : Int) < (le : Int) := by omega
                clear hst HBS
                go_wp2_with (first
                  | (go_at_call 56; refine (HBA.out _).mono ?_; rintro r w5 ⟨rfl, q5, rfl⟩)
                  | (go_at_call 57; refine (HAL.out _).mono ?_; rintro r w5 ⟨rfl, q5, rfl⟩))
                all_goals
                  first
                    | (rw [hmx] at *)
                    | skip
                  first
                    | (exfalso; omega)
                    | (refine ⟨⟨m + 1, _, by omega, by go_num, ?_, ?_, ?_, ?_, rfl⟩, by simp [intOf]; omega⟩
                       · rw [HX.out]; try first | rfl | go_num
                       · rw [HX.out]; try first | rfl | exact congrArg _ hmx
                       · rw [HNT.out]; go_num
                       · rw [HNT.out]; exact congrArg _ (by omega))
              · have HX : Hid (bestE l (m + 1) = (st, le)) := by rw [Hid, HBS.out, if_neg (fun h => by rcases h with h | h; exact hst h; exact hlf h)]
                have hs2 : ¬ (hf : Int) < (le : Int) := by omega
                clear hst HBS
                go_wp2_with (first
                  | (go_at_call 56; refine (HBA.out _).mono ?_; rintro r w5 ⟨rfl, q5, rfl⟩)
                  | (go_at_call 57; refine (HAL.out _).mono ?_; rintro r w5 ⟨rfl, q5, rfl⟩))
                all_goals
                  first
                    | (rw [hmx] at *)
                    | skip
                  first
                    | (exfalso; omega)
                    | (refine ⟨⟨m + 1, _, by omega, by go_num, ?_, ?_, ?_, ?_, rfl⟩, by simp [intOf]; omega⟩
                       · rw [HX.out]; try first | rfl | go_num
                       · rw [HX.out]; try first | rfl | exact congrArg _ hmx
                       · rw [HNT.out]; go_num
                       · rw [HNT.out]; exact congrArg _ (by omega))
          · have hzl : ¬ ((m + 1 : Nat) : Int) < (L.length : Int) := by omega
            have HM : Hid (m = L.length - 1) := by unfold Hid; omega
            by_cases hroom : z.toNat - 32 < (bestE l m).2
            · have hrz : z - 32 < ((bestE l m).2 : Int) := by omega
              have HR : Hid (splitE z (L.map It.e) = (0, 54)) := by rw [Hid, HSP.out, ← HLE.out, ← HM.out, if_neg (by rw [HLE.out]; simpa using hF), if_pos hroom]
              generalize bestE l m = bm at *
              obtain ⟨st, le⟩ := bm
              simp only at hrz hbest ⊢
              go_wp2_with (go_at_call 40; refine (HRO'.out _).mono ?_; rintro r w' ⟨rfl, q', rfl⟩)
              go_ret2
              exact ⟨by rw [HR.out]; rfl, below_draws HB2.out _⟩
            · have hrz : ¬ z - 32 < ((bestE l m).2 : Int) := by omega
              have HR : Hid (splitE z (L.map It.e) = ((bestE l m).1, 0)) := by rw [Hid, HSP.out, ← HLE.out, ← HM.out, if_neg (by rw [HLE.out]; simpa using hF), if_neg hroom]
              generalize bestE l m = bm at *
              obtain ⟨st, le⟩ := bm
              simp only at hrz hbest ⊢
              go_wp2_with (go_at_call 40; refine (HRO'.out _).mono ?_; rintro r w' ⟨rfl, q', rfl⟩)
              go_ret2
              exact ⟨by rw [HR.out]; rfl, below_draws HB2.out _⟩
      · have hFz : ((faultE z.toNat (L.map It.e) : Int) != 0) = true := by simp; omega
        have HR : Hid (splitE z (L.map It.e) = (0, faultE z.toNat (L.map It.e))) := by rw [Hid, HSP.out, if_pos hF]
        clear HSP hz HRO hF hw
        go_enter Try.func26, Try.ntmps26
        go_wp2_with (first
          | (go_at_call 40; refine (HRO'.out _).mono ?_; rintro r w' ⟨rfl, q, rfl⟩)
          | (go_at_call 55; refine (HFT.out _ (below_draws (Below.refl _ _) q)).mono ?_; rintro r w2 ⟨rfl, hb2⟩
             have HB2 : Hid (Below w.heap.size w w2) := (below_draws (Below.refl _ _) q).trans (hb2.mono (Nat.le_refl _))
             clear hb2))
        go_ret2
        exact ⟨by rw [HR.out]; rfl, HB2.out⟩
  · have HRO' : Hid (∀ w, Calls Try.prog 40 #[.int .i64 z] w fun r w' => r = .returned (.int .i64 0) ∧ ∃ q, w' = w.drewN q) := by
      intro w; have := HRO.out w; rw [if_neg hz] at this; exact this
    have HR : Hid (splitE z (L.map It.e) = (0, 1)) := by unfold Hid splitE; rw [if_pos (.inl hz)]
    clear hz HRO hw
    go_enter Try.func26, Try.ntmps26
    go_wp2_with (go_at_call 40; refine (HRO'.out _).mono ?_; rintro r w' ⟨rfl, q, rfl⟩)
    go_ret2
    exact ⟨by rw [HR.out]; rfl, below_draws (Below.refl _ _) _⟩
end Go.Proofs.Ytgifnaahahfhbaa
