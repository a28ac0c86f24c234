/- Bytes, roomOf, fault, Check. -/
import Derived.Test.YtgifnaahahfhbaaSizes
namespace Go.Proofs.Ytgifnaahahfhbaa
open Go.RowKit

set_option maxHeartbeats 800000 in
set_option maxRecDepth 100000 in
theorem bytes_any {w : World} {v : Value} {L : List It} (hL : ListAt w.heap.size w v L) (hw : weightE (L.map It.e) ≤ 4294967296) :
    Calls Try.prog 31 #[v] w fun r w' => r = .returned (.int .i64 (bytesE (L.map It.e) : Nat)) ∧ ∃ q, w' = w.drewN q := by
  have hsh := hL.short
  obtain ⟨a, c, rfl⟩ := hL.form
  have HL : Hid (ListAt w.heap.size w (.slice a L.length c) L) := hL
  clear hL
  go_enter Try.func31, Try.ntmps31
  go_wp2
  go_loopw [3, 7] (fun n i wx => ∃ k : Nat, k ≤ L.length ∧ i = .int .i64 k ∧ n = .int .i64 (bytesE ((L.map It.e).take k) : Nat) ∧ ∃ q, wx = w.drewN q) (fun _ i _ => L.length - (intOf i).toNat)
  case atStart => exact ⟨0, by omega, rfl, by simp [bytesE, bytesF], 0, rfl⟩
  case round =>
    obtain ⟨k, hk, rfl, rfl, q, rfl⟩ := hrel
    by_cases hlt : k < L.length
    · have hz : (k : Int) < (L.length : Int) := by omega
      obtain ⟨e, he⟩ : ∃ e, L[k]? = some e := ⟨_, List.getElem?_eq_getElem hlt⟩
      have HB := bytesAt_any (HL.out.here (below_draws (Below.refl _ _) q)) he
      have HN : Hid (bytesE ((L.map It.e).take (k + 1)) = bytesE ((L.map It.e).take k) + enLen (prevK (L.map It.e) k) e.e) := bytesE_take (ents_get he)
      have hb : bytesE ((L.map It.e).take (k + 1)) ≤ 25769803778 := by
        have h1 := bytesF_weight [] ((L.map It.e).take (k + 1))
        have h2 := weightE_take (L.map It.e) (k + 1)
        unfold bytesE; omega
      rw [HN.out] at hb
      clear he
      generalize bytesE ((L.map It.e).take k) = n at *
      generalize enLen (prevK (L.map It.e) k) e.e = m at *
      go_wp2_with (go_at_call 56; refine HB.mono ?_; rintro r w' ⟨rfl, q', rfl⟩)
      exact ⟨⟨k + 1, by omega, by go_num, by rw [HN.out]; go_num, q + q', rfl⟩, by simp [intOf]; omega⟩
    · have hz : ¬ (k : Int) < (L.length : Int) := by omega
      have HE : Hid ((L.map It.e).take k = L.map It.e) := List.take_of_length_le (by simp; omega)
      go_wp2
      go_ret
      exact ⟨by rw [HE.out]; rfl, q, rfl⟩

set_option maxHeartbeats 800000 in
set_option maxRecDepth 100000 in
theorem roomOf_any (w : World) (z : Int) : Calls Try.prog 40 #[.int .i64 z] w fun r w' => r = .returned (.int .i64 (if Sized z then z - 32 else 0)) ∧ ∃ q, w' = w.drewN q := by
  by_cases h : Sized z
  · rw [if_pos h]
    rcases h with rfl | rfl | rfl | rfl
    all_goals
      go_enter Try.func40, Try.ntmps40
      go_wp2
      go_ret
      exact ⟨rfl, 0, rfl⟩
  · rw [if_neg h]
    have h1 : (z == 512) = false := by rw [beq_eq_false_iff_ne]; intro e; exact h (.inl e)
    have h2 : (z == 1024) = false := by rw [beq_eq_false_iff_ne]; intro e; exact h (.inr (.inl e))
    have h3 : (z == 2048) = false := by rw [beq_eq_false_iff_ne]; intro e; exact h (.inr (.inr (.inl e)))
    have h4 : (z == 4096) = false := by rw [beq_eq_false_iff_ne]; intro e; exact h (.inr (.inr (.inr e)))
    clear h
    go_enter Try.func40, Try.ntmps40
    go_wp2
    go_ret
    exact ⟨rfl, 0, rfl⟩

set_option maxHeartbeats 800000 in
set_option maxRecDepth 100000 in
theorem fault_any {w : World} {v : Value} {L : List It} {z : Int} (hz : Sized z) (hL : ListAt w.heap.size w v L) :
    Calls Try.prog 55 #[.int .i64 z, v] w fun r w' => r = .returned (.int .i64 (faultE z.toNat (L.map It.e) : Nat)) ∧ Below w.heap.size w w' := by
  have hsh := hL.short
  obtain ⟨a, c, rfl⟩ := hL.form
  have HL : Hid (ListAt w.heap.size w (.slice a L.length c) L) := hL
  clear hL
  obtain ⟨s, rfl⟩ : ∃ s : Nat, z = (s : Int) := ⟨z.toNat, by rcases hz with rfl | rfl | rfl | rfl <;> rfl⟩
  have hs : s = 512 ∨ s = 1024 ∨ s = 2048 ∨ s = 4096 := by rcases hz with h | h | h | h <;> omega
  have hd1 : (s : Int).tdiv 16 = ((s / 16 : Nat) : Int) := by rcases hs with rfl | rfl | rfl | rfl <;> rfl
  have hd2 : (s : Int).tdiv 4 = ((s / 4 : Nat) : Int) := by rcases hs with rfl | rfl | rfl | rfl <;> rfl
  have hsz : s ≤ 4096 := by omega
  rw [Int.toNat_natCast]
  clear hz hs
  go_enter Try.func55, Try.ntmps55
  go_wp2
  go_loopw [9] (fun i wx => ∃ k : Nat, k ≤ L.length ∧ i = .int .i64 k ∧ faultF s [] ((L.map It.e).take k) = 0 ∧ Below w.heap.size w wx) (fun i _ => L.length - (intOf i).toNat)
  case atStart => exact ⟨0, by omega, rfl, rfl, Below.refl _ _⟩
  case round =>
    obtain ⟨k, hk, rfl, hf, hbe⟩ := hrel
    have HF : Hid (faultF s [] ((L.map It.e).take k) = 0) := hf
    have HBE : Hid (Below w.heap.size w wr) := hbe
    clear hf hbe
    by_cases hlt : k < L.length
    · have hz : (k : Int) < (L.length : Int) := by omega
      obtain ⟨e, he⟩ : ∃ e, L[k]? = some e := ⟨_, List.getElem?_eq_getElem hlt⟩
      have hL := HL.out.here HBE.out
      obtain ⟨g, off, c', e1, k0, k1⟩ := hL.cells k e he
      cases e1
      obtain ⟨a1, c1, f1⟩ := (hL.ok e (List.mem_of_getElem? he)).k.form
      obtain ⟨a2, c2, f2⟩ := (hL.ok e (List.mem_of_getElem? he)).v.form
      rw [f1] at k0
      rw [f2] at k1
      have hek := he
      have HFA : Hid (∀ n, n ≠ 0 → faultAt s (prevK (L.map It.e) k) e.e = n → faultE s (L.map It.e) = n) := fun n hn h => by
        have := faultF_some s [] (L.map It.e) k e.e (ents_get hek) HF.out (by unfold prevK at h; rw [h]; exact hn)
        unfold prevK at h
        unfold faultE
        rw [this, h]
      have HFO : Hid (faultAt s (prevK (L.map It.e) k) e.e = 0 → faultF s [] ((L.map It.e).take (k + 1)) = 0) := fun h =>
        faultF_take s [] (L.map It.e) k e.e (ents_get hek) HF.out h
      have HE : Hid (KeyAt wr (.slice a1 e.e.k.length c1) e.e.k) := by have := (hL.ok e (List.mem_of_getElem? he)).k.at (Nat.le_refl _); rw [f1] at this; exact this
      have HBW : Hid (Below wr.heap.size wr (wr.alloc (.cells #[.slice a1 e.e.k.length c1, .slice a2 e.e.v.length c2] 47))) := below_new _ _
      have HBB : Hid (Below w.heap.size w (wr.alloc (.cells #[.slice a1 e.e.k.length c1, .slice a2 e.e.v.length c2] 47))) := HBE.out.trans (HBW.out.mono HBE.out.size)
      by_cases h1 : e.e.k.length = 0
      · have h1z : ((e.e.k.length : Int) == 0) = true := by simp [h1]
        have HR : Hid (faultE s (L.map It.e) = 51) := HFA.out 51 (by decide) (by simp [faultAt, h1])
        clear HFA HFO he hek hL f1 f2 h1
        go_wp2
        go_ret
        exact ⟨by rw [HR.out]; rfl, HBB.out⟩
      · have h1z : ((e.e.k.length : Int) == 0) = false := by rw [beq_eq_false_iff_ne]; omega
        by_cases h2 : s / 16 < e.e.k.length
        · have h2z : (s : Int) / 16 < (e.e.k.length : Int) := by omega
          have HR : Hid (faultE s (L.map It.e) = 51) := HFA.out 51 (by decide) (by simp [faultAt, h2])
          clear HFA HFO he hek hL f1 f2 h1
          go_wp2
          go_ret
          exact ⟨by rw [HR.out]; rfl, HBB.out⟩
        · have h2z : ¬ (s : Int) / 16 < (e.e.k.length : Int) := by omega
          by_cases h3 : s / 4 < e.e.v.length
          · have h3z : (s : Int) / 4 < (e.e.v.length : Int) := by omega
            have HR : Hid (faultE s (L.map It.e) = 52) := HFA.out 52 (by decide) (by simp only [faultAt]; rw [if_neg (by omega), if_pos h3])
            clear HFA HFO he hek hL f1 f2 h1
            go_wp2
            go_ret
            exact ⟨by rw [HR.out]; rfl, HBB.out⟩
          · have h3z : ¬ (s : Int) / 4 < (e.e.v.length : Int) := by omega
            have HFP : Hid (faultAt s (prevK (L.map It.e) k) e.e = if prevK (L.map It.e) k < e.e.k then 0 else 53) := by
              simp only [Hid, faultAt]; rw [if_neg (by omega), if_neg h3]
            by_cases hk0 : k = 0
            · subst hk0
              have HO : Hid (faultF s [] ((L.map It.e).take (0 + 1)) = 0) := HFO.out (by
                rw [HFP.out, prevK_zero]
                have : ([] : Key) < e.e.k := by
                  cases h : e.e.k with
                  | nil => simp [h] at h1
                  | cons x r => simp
                simp [this])
              clear HFA HFO HFP he hek hL f1 f2 h1
              simp only [Nat.zero_mul, Nat.add_zero] at k0 k1
              go_wp2_with fail
              go_quiet (fail)
              go_wp2
              exact ⟨⟨1, by omega, by go_num, HO.out, below_draws HBB.out _⟩, by simp [intOf]; omega⟩
            · obtain ⟨j, hj⟩ : ∃ j : Nat, k = j + 1 := ⟨k - 1, by omega⟩
              have hn1 : (k : Int) - 1 = (j : Int) := by omega
              have hn2 : (j : Int) < (L.length : Int) := by omega
              have hn3 : (0 : Int) < (k : Int) := by omega
              have hn4 : 0 < k := by omega
              have hn5 : decide (0 < k) = true := decide_eq_true hn4
              obtain ⟨x, hx⟩ : ∃ x, L[j]? = some x := ⟨L[j]'(by omega), List.getElem?_eq_getElem _⟩
              have HP : Hid (prevK (L.map It.e) k = x.e.k) := by rw [Hid, hj]; exact prevK_succ (ents_get hx)
              obtain ⟨_, _, _, e1, m0, m1⟩ := (hL.here HBW.out).cells j x hx
              cases e1
              have HX : Hid (KeyAt (wr.alloc (.cells #[.slice a1 e.e.k.length c1, .slice a2 e.e.v.length c2] 47)) x.v1 x.e.k) := ((hL.ok x (List.mem_of_getElem? hx)).k.at (Nat.le_refl _)).here HBW.out
              have HE2 : Hid (KeyAt (wr.alloc (.cells #[.slice a1 e.e.k.length c1, .slice a2 e.e.v.length c2] 47)) (.slice a1 e.e.k.length c1) e.e.k) := HE.out.here HBW.out
              by_cases hlk : x.e.k < e.e.k
              · have HO : Hid (faultF s [] ((L.map It.e).take (k + 1)) = 0) := HFO.out (by rw [HFP.out, HP.out]; simp [hlk])
                have hcm : decide (0 ≤ cmpK x.e.k e.e.k) = false := decide_eq_false (fun h => by have := cmpK_ge.1 h; grind)
                have hcz : ¬ 0 ≤ cmpK x.e.k e.e.k := by simpa using hcm
                clear HFA HFO HFP he hek hL f1 f2 h1 hx hj hlk
                go_wp2_with fail
                go_quiet (first
                  | (go_at_call 66; exact Calls.quiet_of (compare_key (HX.out.draws _) (HE2.out.draws _))))
                go_wp2
                exact ⟨⟨k + 1, by omega, by go_num, HO.out, below_draws HBB.out _⟩, by simp [intOf]; omega⟩
              · have HR : Hid (faultE s (L.map It.e) = 53) := HFA.out 53 (by decide) (by rw [HFP.out, HP.out]; simp [hlk])
                have hcm : decide (0 ≤ cmpK x.e.k e.e.k) = true := decide_eq_true (cmpK_ge.2 (by grind))
                have hcz : 0 ≤ cmpK x.e.k e.e.k := by simpa using hcm
                clear HFA HFO HFP he hek hL f1 f2 h1 hx hj hlk
                go_wp2_with fail
                go_quiet (first
                  | (go_at_call 66; exact Calls.quiet_of (compare_key (HX.out.draws _) (HE2.out.draws _))))
                go_wp2
                go_ret
                exact ⟨by rw [HR.out]; rfl, below_draws HBB.out _⟩
    · have hz : ¬ (k : Int) < (L.length : Int) := by omega
      have HE : Hid ((L.map It.e).take k = L.map It.e) := List.take_of_length_le (by simp; omega)
      have HF2 : Hid (faultE s (L.map It.e) = 0) := by have := HF.out; rw [HE.out] at this; exact this
      go_wp2
      go_ret
      exact ⟨by rw [HF2.out]; rfl, HBE.out⟩

theorem checkE_sized {z : Int} {l : List En} (hz : Sized z) : checkE z l = if faultE z.toNat l ≠ 0 then faultE z.toNat l else if z.toNat - 32 < bytesE l then 54 else 0 := by
  unfold checkE; rw [if_neg (by simpa using hz)]
set_option maxHeartbeats 800000 in
set_option maxRecDepth 100000 in
theorem check_any {w : World} {v : Value} {L : List It} {z : Int} (hL : ListAt w.heap.size w v L) (hw : weightE (L.map It.e) ≤ 4294967296) :
    Calls Try.prog 30 #[.int .i64 z, v] w fun r w' => r = .returned (.int .i64 (checkE z (L.map It.e) : Nat)) ∧ Below w.heap.size w w' := by
  have hsh := hL.short
  obtain ⟨a, c, rfl⟩ := hL.form
  have HL : Hid (ListAt w.heap.size w (.slice a L.length c) L) := hL
  have HRO : Hid (∀ w, Calls Try.prog 40 #[.int .i64 z] w fun r w' => r = .returned (.int .i64 (if Sized z then z - 32 else 0)) ∧ ∃ q, w' = w.drewN q) := fun w => roomOf_any w z
  clear hL
  by_cases hz : Sized z
  · have hzz := sized_le hz
    have hzn : (z - 32 == 0) = false := by rw [beq_eq_false_iff_ne]; omega
    have HC : Hid (checkE z (L.map It.e) = if faultE z.toNat (L.map It.e) ≠ 0 then faultE z.toNat (L.map It.e) else if z.toNat - 32 < bytesE (L.map It.e) then 54 else 0) := checkE_sized hz
    have HFT : Hid (∀ w', Below w.heap.size w w' → Calls Try.prog 55 #[.int .i64 z, .slice a L.length c] w' fun r w'' => r = .returned (.int .i64 (faultE z.toNat (L.map It.e) : Nat)) ∧ Below w'.heap.size w' w'') := fun w' hb => fault_any hz (HL.out.here hb)
    have HBY : Hid (∀ w', Below w.heap.size w w' → Calls Try.prog 31 #[.slice a L.length c] w' fun r w'' => r = .returned (.int .i64 (bytesE (L.map It.e) : Nat)) ∧ ∃ q, w'' = w'.drewN q) := fun w' hb => bytes_any (HL.out.here hb) hw
    have HRO' : Hid (∀ w, Calls Try.prog 40 #[.int .i64 z] w fun r w' => r = .returned (.int .i64 (z - 32)) ∧ ∃ q, w' = w.drewN q) := by
      intro w; have := HRO.out w; rw [if_pos hz] at this; exact this
    clear HRO
    generalize faultE z.toNat (L.map It.e) = F at *
    generalize bytesE (L.map It.e) = N at *
    clear hw
    by_cases hF : F = 0
    · subst hF
      by_cases hN : z.toNat - 32 < N
      · have hNz : z - 32 < (N : Int) := by omega
        have HR : Hid (checkE z (L.map It.e) = 54) := by rw [Hid, HC.out]; simp [hN]
        clear HC hz
        go_enter Try.func30, Try.ntmps30
        go_wp2_with (first
          | (go_at_call 40; refine (HRO'.out _).mono ?_; rintro r w' ⟨rfl, q, rfl⟩)
          | (go_at_call 55; refine (HFT.out _ (below_draws (Below.refl _ _) q)).mono ?_; rintro r w2 ⟨rfl, hb2⟩
             have HB2 : Hid (Below w.heap.size w w2) := (below_draws (Below.refl _ _) q).trans (hb2.mono (Nat.le_refl _))
             clear hb2)
          | (go_at_call 31; refine (HBY.out _ HB2.out).mono ?_; rintro r w3 ⟨rfl, q3, rfl⟩))
        go_ret
        exact ⟨by rw [HR.out]; rfl, below_draws HB2.out _⟩
      · have hNz : ¬ z - 32 < (N : Int) := by omega
        have HR : Hid (checkE z (L.map It.e) = 0) := by rw [Hid, HC.out]; simp; omega
        clear HC hz
        go_enter Try.func30, Try.ntmps30
        go_wp2_with (first
          | (go_at_call 40; refine (HRO'.out _).mono ?_; rintro r w' ⟨rfl, q, rfl⟩)
          | (go_at_call 55; refine (HFT.out _ (below_draws (Below.refl _ _) q)).mono ?_; rintro r w2 ⟨rfl, hb2⟩
             have HB2 : Hid (Below w.heap.size w w2) := (below_draws (Below.refl _ _) q).trans (hb2.mono (Nat.le_refl _))
             clear hb2)
          | (go_at_call 31; refine (HBY.out _ HB2.out).mono ?_; rintro r w3 ⟨rfl, q3, rfl⟩))
        go_ret
        exact ⟨by rw [HR.out]; rfl, below_draws HB2.out _⟩
    · have hFz : ((F : Int) != 0) = true := by simp; omega
      have HR : Hid (checkE z (L.map It.e) = F) := by rw [Hid, HC.out]; simp [hF]
      clear HC hz hF
      go_enter Try.func30, Try.ntmps30
      go_wp2_with (first
        | (go_at_call 40; refine (HRO'.out _).mono ?_; rintro r w' ⟨rfl, q, rfl⟩)
        | (go_at_call 55; refine (HFT.out _ (below_draws (Below.refl _ _) q)).mono ?_; rintro r w2 ⟨rfl, hb2⟩
           have HB2 : Hid (Below w.heap.size w w2) := (below_draws (Below.refl _ _) q).trans (hb2.mono (Nat.le_refl _))
           clear hb2)
        | (go_at_call 31; refine (HBY.out _ HB2.out).mono ?_; rintro r w3 ⟨rfl, q3, rfl⟩))
      go_ret
      exact ⟨by rw [HR.out]; rfl, HB2.out⟩
  · have HRO' : Hid (∀ w, Calls Try.prog 40 #[.int .i64 z] w fun r w' => r = .returned (.int .i64 0) ∧ ∃ q, w' = w.drewN q) := by
      intro w; have := HRO.out w; rw [if_neg hz] at this; exact this
    have HR : Hid (checkE z (L.map It.e) = 1) := by unfold Hid checkE; rw [if_pos hz]
    clear hz HRO hw
    go_enter Try.func30, Try.ntmps30
    go_wp2_with (go_at_call 40; refine (HRO'.out _).mono ?_; rintro r w' ⟨rfl, q, rfl⟩)
    go_ret
    exact ⟨by rw [HR.out]; rfl, below_draws (Below.refl _ _) _⟩
end Go.Proofs.Ytgifnaahahfhbaa
