/- behind, fault: what is wrong with the first message that is not as it must be. -/
import Derived.Test.YtpmcpomomagkhaaInside
namespace Go.Proofs.Ytpmcpomomagkhaa
open Go.RowKit

/-- A part of a list of messages. -/
theorem MsgsAt.part {B : Nat} {w : World} {g o n c : Nat} {L : List Mt} (h : MsgsAt B w (.slice (some ⟨g, o, none⟩) n c) L) (i k : Nat) (hi : i + k ≤ n) : MsgsAt B w (.slice (some ⟨g, o + i * 5, none⟩) k (c - i)) ((L.drop i).take k) := by
  obtain ⟨⟨a, c', h1, h2, h3, h4⟩, h5, h6⟩ := h
  cases h1
  have hl : ((L.drop i).take k).length = k := by rw [List.length_take, List.length_drop]; omega
  refine ⟨⟨_, _, by rw [hl], by rw [hl]; omega, fun e => (by cases e), fun j u hj => ?_⟩, by rw [hl]; omega, fun e he => h6 e (List.mem_of_mem_drop (List.mem_of_mem_take he))⟩
  have hjl := (List.getElem?_eq_some_iff.1 hj).1
  rw [flatM_length, hl] at hjl
  have e1 : flatM L = flatM (L.take i) ++ (flatM ((L.drop i).take k) ++ flatM ((L.drop i).drop k)) := by
    rw [← flatM_append, ← flatM_append, List.take_append_drop, List.take_append_drop]
  have hti : (flatM (L.take i)).length = i * 5 := by rw [flatM_length, List.length_take, Nat.min_eq_left (by omega)]
  have h7 : (flatM L)[i * 5 + j]? = some u := by
    rw [e1, List.getElem?_append_right (by omega), hti, Nat.add_sub_cancel_left, List.getElem?_append_left (by rw [flatM_length, hl]; omega)]
    exact hj
  obtain ⟨g', o', e2, hg, hc⟩ := h4 _ _ h7
  cases e2
  exact ⟨g, o + i * 5, rfl, hg, by rw [Nat.add_assoc]; exact hc⟩
theorem part_one {L : List Mt} {i : Nat} {e : Mt} (h : L[i]? = some e) : (L.drop i).take 1 = [e] := by
  obtain ⟨h1, h2⟩ := List.getElem?_eq_some_iff.1 h
  rw [List.drop_eq_getElem_cons h1, h2]; rfl
theorem part_two {L : List Mt} {i : Nat} {e f : Mt} (h : L[i]? = some e) (hf : L[i + 1]? = some f) : (L.drop i).take 2 = [e, f] := by
  obtain ⟨h1, h2⟩ := List.getElem?_eq_some_iff.1 h
  obtain ⟨h3, h4⟩ := List.getElem?_eq_some_iff.1 hf
  rw [List.drop_eq_getElem_cons h1, h2, List.drop_eq_getElem_cons h3, h4]; rfl
theorem sub_two (j : Nat) : (j + 1 + 1) - j = 2 := by omega

set_option maxHeartbeats 1600000 in
set_option maxRecDepth 100000 in
theorem behind_any {w : World} {a1 a2 a3 a4 : Option Addr} {c1 c2 c3 c4 : Nat} {ps : List Int} {K : List Br.Kc} {M : List Mt} {z : Int} (h : PartsAt w (.slice a1 ps.length c1) (.slice a2 K.length c2) (.slice a3 M.length c3) (.slice a4 M.length c4) ps K M) {i j : Nat} {e f : Mt} (hi : i = j + 1) (he : M[j]? = some e) (hf : M[j + 1]? = some f) :
    Calls Try.prog 42 #[.agg #[.slice a1 ps.length c1, .slice a2 K.length c2, .slice a3 M.length c3, .slice a4 M.length c4], .int .i64 z, .int .i64 (i : Nat)] w fun r w' => r = .returned (.bool (behindN z (Br.kd ps K) e.m f.m)) ∧ Below w.heap.size w w' := by
  have hil := (List.getElem?_eq_some_iff.1 hf).1
  have hsh := h.msgs.short
  obtain ⟨W, hW⟩ : ∃ W, W = w.alloc (.cells #[.slice a1 ps.length c1, .slice a2 K.length c2, .slice a3 M.length c3, .slice a4 M.length c4] 58) := ⟨_, rfl⟩
  have HBW : Hid (Below w.heap.size w W) := by rw [hW]; exact below_new _ _
  have HX : Hid (PBox W w.heap.size (.slice a1 ps.length c1) (.slice a2 K.length c2) (.slice a3 M.length c3) (.slice a4 M.length c4)) := by rw [hW]; exact PBox.new _ _ _ _ _
  obtain ⟨g, off, c', e1, _⟩ := h.msgs.cells j e he
  cases e1
  obtain ⟨_, _, ec, hcM, _⟩ := h.msgs.is
  cases ec
  have hg1 := homes_get (d := Br.kd ps K) (msOf_get he)
  have hg2 := homes_get (d := Br.kd ps K) (msOf_get hf)
  obtain ⟨g4, o4, c4', e4, hc1⟩ := (h.home.here HBW.out).cell j _ hg1
  rw [homes_length, msOf_length] at e4
  cases e4
  obtain ⟨_, _, _, e4, hc2⟩ := (h.home.here HBW.out).cell (j + 1) _ hg2
  rw [homes_length, msOf_length] at e4
  cases e4
  have HMS : Hid (∀ W', Below W.heap.size W W' → MsgsAt W'.heap.size W' (.slice (some ⟨g, off + j * 5, none⟩) 2 (c3 - j)) [e, f]) := fun W' hb => by
    have := ((h.msgs.here HBW.out).here hb).part j 2 (by omega)
    rw [part_two he hf] at this
    exact this
  have HRE : Hid (behindN z (Br.kd ps K) e.m f.m = if homeN (Br.kd ps K) e.m = homeN (Br.kd ps K) f.m then decide (checkM z [e.m, f.m] = 0) else decide (homeN (Br.kd ps K) e.m < homeN (Br.kd ps K) f.m)) := rfl
  obtain ⟨A, hA⟩ : ∃ A : Nat, A = homeN (Br.kd ps K) e.m := ⟨_, rfl⟩
  obtain ⟨B, hB⟩ : ∃ B : Nat, B = homeN (Br.kd ps K) f.m := ⟨_, rfl⟩
  rw [← hA, ← hB] at HRE
  rw [← hA] at hc1
  rw [← hB] at hc2
  rw [HRE.out]
  obtain ⟨x0, x1, x2, x3⟩ := HX.out.cells
  have hij : (i : Int) - 1 = (j : Int) := by omega
  have hwj : IntKind.i64.wrap (j : Int) = (j : Int) := Br.wrapk_of _ (by omega) (by omega)
  have hiz : (i : Int) < (M.length : Int) := by omega
  have hjz : (j : Int) < (M.length : Int) := by omega
  have hc2' : W.cell? ⟨g4, o4 + i, none⟩ = some (.int .i64 (B : Nat)) := by rw [hi]; exact hc2
  have hi2 : (i : Int) + 1 ≤ (c3 : Int) := by omega
  have hj2 : (j : Int) ≤ (i : Int) + 1 := by omega
  have hcj : ¬ c3 = j := by omega
  have hij2 : i + 1 - j = 2 := by omega
  clear h he hf hg1 hg2 hA hB hc2 hi HRE
  by_cases hab : A = B
  · subst hab
    rw [if_pos rfl]
    have HDE : Hid ((((checkM z [e.m, f.m] : Nat) : Int) == 0) = decide (checkM z [e.m, f.m] = 0)) := by rw [Hid, Bool.eq_iff_iff]; simp
    go_enter Try.func42, Try.ntmps42
    go_wp2_with fail
    rw [← hW]
    clear hW
    go_quiet (fail)
    go_wp2_with fail
    refine (check_any (z := z) (HMS.out _ (below_draws (Below.refl _ _) _))).mono ?_
    rintro r w1 ⟨rfl, hb1⟩
    have HB1 : Hid (Below w.heap.size w w1) := (below_draws HBW.out _).trans (hb1.mono (below_draws HBW.out _).size)
    clear hb1
    go_wp2
    go_ret
    exact ⟨ret_bool HDE.out, HB1.out⟩
  · rw [if_neg hab]
    have hab' : ((A : Int) == (B : Int)) = false := by rw [beq_eq_false_iff_ne]; omega
    clear hab
    go_enter Try.func42, Try.ntmps42
    go_wp2_with fail
    rw [← hW]
    clear hW
    go_quiet (fail)
    go_wp2_with fail
    go_quiet (fail)
    go_wp2
    go_ret
    exact ⟨rfl, by first | exact below_draws (below_draws HBW.out _) _ | exact below_draws HBW.out _⟩

/-- The message ahead of a place. -/
def prevM (L : List Ms) (k : Nat) : Option Ms := if k = 0 then none else L[k - 1]?
theorem fault_at {z : Int} {d : Kd} {p : Option Ms} {L : List Ms} {k : Nat} {m : Ms} (h : L[k]? = some m) : faultL z d p (L.drop k) = if checkM z [m] ≠ 0 then checkM z [m] else if insideN d m = false then 83 else if aheadN z d p m = false then 72 else faultL z d (some m) (L.drop (k + 1)) := by
  obtain ⟨h1, h2⟩ := List.getElem?_eq_some_iff.1 h
  rw [List.drop_eq_getElem_cons h1, h2]
  rfl

set_option maxHeartbeats 3200000 in
set_option maxRecDepth 100000 in
theorem fault_any {w : World} {a1 a2 a3 a4 : Option Addr} {c1 c2 c3 c4 : Nat} {ps : List Int} {K : List Br.Kc} {M : List Mt} {z : Int} (h : PartsAt w (.slice a1 ps.length c1) (.slice a2 K.length c2) (.slice a3 M.length c3) (.slice a4 M.length c4) ps K M) :
    Calls Try.prog 22 #[.agg #[.slice a1 ps.length c1, .slice a2 K.length c2, .slice a3 M.length c3, .slice a4 M.length c4], .int .i64 z] w fun r w' => r = .returned (.int .i64 (faultL z (Br.kd ps K) none (msOf M) : Nat)) ∧ Below w.heap.size w w' := by
  have hsh := h.msgs.short
  obtain ⟨W, hW⟩ : ∃ W, W = w.alloc (.cells #[.slice a1 ps.length c1, .slice a2 K.length c2, .slice a3 M.length c3, .slice a4 M.length c4] 58) := ⟨_, rfl⟩
  have HBW : Hid (Below w.heap.size w W) := by rw [hW]; exact below_new _ _
  have HX : Hid (PBox W w.heap.size (.slice a1 ps.length c1) (.slice a2 K.length c2) (.slice a3 M.length c3) (.slice a4 M.length c4)) := by rw [hW]; exact PBox.new _ _ _ _ _
  have HP : Hid (PartsAt W (.slice a1 ps.length c1) (.slice a2 K.length c2) (.slice a3 M.length c3) (.slice a4 M.length c4) ps K M) := h.here HBW.out
  obtain ⟨F, hF⟩ : ∃ F, F = faultL z (Br.kd ps K) none (msOf M) := ⟨_, rfl⟩
  rw [← hF]
  obtain ⟨_, _, ec, hcM, _⟩ := h.msgs.is
  cases ec
  obtain ⟨x0, x1, x2, x3⟩ := HX.out.cells
  have HF0 : Hid (faultL z (Br.kd ps K) (prevM (msOf M) 0) ((msOf M).drop 0) = F) := by rw [Hid, hF]; rfl
  clear h hF
  go_enter Try.func22, Try.ntmps22
  go_wp2_with fail
  rw [← hW]
  clear hW
  go_loopw [11] (fun i wx => ∃ (k : Nat), k ≤ M.length ∧ i = .int .i64 k ∧ faultL z (Br.kd ps K) (prevM (msOf M) k) ((msOf M).drop k) = F ∧ Below W.heap.size W wx) (fun i _ => M.length - (intOf i).toNat)
  case atStart => exact ⟨0, by omega, rfl, HF0.out, Below.refl _ _⟩
  case round =>
    obtain ⟨k, hk, rfl, hft, hbw⟩ := hrel
    have HBR : Hid (Below W.heap.size W wr) := hbw
    have HFT : Hid _ := hft
    clear hft hbw HF0 x0 x1 x2 x3
    by_cases hlt : k < M.length
    · have hz : (k : Int) < (M.length : Int) := by omega
      obtain ⟨e, he⟩ : ∃ e, M[k]? = some e := ⟨_, List.getElem?_eq_getElem hlt⟩
      obtain ⟨g, off, c', e1, _⟩ := HP.out.msgs.cells k e he
      cases e1
      have HME : Hid (∀ W', Below W.heap.size W W' → MsgsAt W'.heap.size W' (.slice (some ⟨g, off + k * 5, none⟩) 1 (c3 - k)) [e]) := fun W' hb => by
        have := (HP.out.msgs.here hb).part k 1 (by omega)
        rw [part_one he] at this
        exact this
      have hFT := HFT.out
      rw [fault_at (msOf_get he)] at hFT
      have HFE : Hid _ := hFT
      have HE : Hid (M[k]? = some e) := he
      have hkc : (k : Int) + 1 ≤ (c3 : Int) := by omega
      have hkc2 : ¬ c3 = k := by omega
      have hk1 : (k : Int) ≤ (k : Int) + 1 := by omega
      obtain ⟨x0, x1, x2, x3⟩ := (HX.out.here HBR.out).cells
      have HCK := check_any (z := z) (HME.out _ HBR.out)
      clear hFT he
      go_wp2_with fail
      refine HCK.mono ?_
      rintro r w1 ⟨rfl, hb1⟩
      have HB1 : Hid (Below W.heap.size W w1) := HBR.out.trans (hb1.mono HBR.out.size)
      have HBO1 : Hid (Below w.heap.size w w1) := HBW.out.trans (HB1.out.mono HBW.out.size)
      obtain ⟨y0, y1, y2, y3⟩ := (HX.out.here HB1.out).cells
      clear hb1 HCK x0 x1 x2 x3
      rw [show msOf [e] = [e.m] from rfl]
      by_cases hc : checkM z [e.m] = 0
      · rw [hc]
        have HFE2 : Hid _ := HFE.out
        rw [Hid, if_neg (by simp [hc])] at HFE2
        have HFE3 : Hid _ := HFE2
        have HIN := inside_any (HP.out.here HB1.out) HE.out
        clear hc HFE HFE2
        go_wp2_with fail
        refine HIN.mono ?_
        rintro r w2 ⟨rfl, hb2⟩
        have HB2 : Hid (Below W.heap.size W w2) := HB1.out.trans (hb2.mono HB1.out.size)
        have HBO2 : Hid (Below w.heap.size w w2) := HBW.out.trans (HB2.out.mono HBW.out.size)
        obtain ⟨z0, z1, z2, z3⟩ := (HX.out.here HB2.out).cells
        clear hb2 HIN y0 y1 y2 y3
        by_cases hin : insideN (Br.kd ps K) e.m = true
        · rw [hin]
          have HFE4 : Hid _ := HFE3.out
          rw [Hid, if_neg (by simp [hin])] at HFE4
          have HFE5 : Hid _ := HFE4
          clear hin HFE3 HFE4
          by_cases hk0 : k = 0
          · have hz0 : ¬ (0 : Int) < (k : Int) := by omega
            have HNX : Hid (faultL z (Br.kd ps K) (prevM (msOf M) (k + 1)) ((msOf M).drop (k + 1)) = F) := by
              have h1 := HFE5.out
              rw [show aheadN z (Br.kd ps K) (prevM (msOf M) k) e.m = true by unfold prevM; rw [if_pos hk0]; rfl, if_neg (by simp)] at h1
              rw [Hid, show prevM (msOf M) (k + 1) = some e.m by unfold prevM; rw [if_neg (by omega), Nat.add_sub_cancel]; exact msOf_get HE.out]
              exact h1
            clear hk0
            go_wp2
            exact ⟨⟨k + 1, by omega, by go_num, HNX.out, HB2.out⟩, by simp [intOf]; omega⟩
          · have hz0 : (0 : Int) < (k : Int) := by omega
            obtain ⟨j, hj⟩ : ∃ j, k = j + 1 := ⟨k - 1, by omega⟩
            obtain ⟨f, hf⟩ : ∃ f, M[j]? = some f := ⟨_, List.getElem?_eq_getElem (by omega)⟩
            have HBH := behind_any (z := z) (HP.out.here HB2.out) hj hf (by rw [← hj]; exact HE.out)
            have HPV : Hid (prevM (msOf M) k = some f.m) := by unfold Hid prevM; rw [if_neg hk0, show k - 1 = j by omega]; exact msOf_get hf
            clear hj hf hk0
            go_wp2_with fail
            refine HBH.mono ?_
            rintro r w3 ⟨rfl, hb3⟩
            have HB3 : Hid (Below W.heap.size W w3) := HB2.out.trans (hb3.mono HB2.out.size)
            have HBO3 : Hid (Below w.heap.size w w3) := HBW.out.trans (HB3.out.mono HBW.out.size)
            clear hb3 HBH z0 z1 z2 z3
            by_cases hbe : behindN z (Br.kd ps K) f.m e.m = true
            · rw [hbe]
              have HNX : Hid (faultL z (Br.kd ps K) (prevM (msOf M) (k + 1)) ((msOf M).drop (k + 1)) = F) := by
                have h1 := HFE5.out
                rw [HPV.out, show aheadN z (Br.kd ps K) (some f.m) e.m = true from hbe, if_neg (by simp)] at h1
                rw [Hid, show prevM (msOf M) (k + 1) = some e.m by unfold prevM; rw [if_neg (by omega), Nat.add_sub_cancel]; exact msOf_get HE.out]
                exact h1
              clear hbe
              go_wp2
              exact ⟨⟨k + 1, by omega, by go_num, HNX.out, HB3.out⟩, by simp [intOf]; omega⟩
            · have hbe' : behindN z (Br.kd ps K) f.m e.m = false := by simpa using hbe
              rw [hbe']
              have HFR : Hid (F = 72) := by
                have h1 := HFE5.out
                rw [HPV.out, show aheadN z (Br.kd ps K) (some f.m) e.m = false from hbe', if_pos rfl] at h1
                exact h1.symm
              clear hbe hbe'
              go_wp2
              go_ret
              exact ⟨by rw [HFR.out]; rfl, HBO3.out⟩
        · have hin' : insideN (Br.kd ps K) e.m = false := by simpa using hin
          rw [hin']
          have HFR : Hid (F = 83) := by
            have h1 := HFE3.out
            rw [if_pos hin'] at h1
            exact h1.symm
          clear hin hin'
          go_wp2
          go_ret
          exact ⟨by rw [HFR.out]; rfl, HBO2.out⟩
      · have hcz : (((checkM z [e.m] : Nat) : Int) != 0) = true := by simp; omega
        have HFR : Hid (F = checkM z [e.m]) := by
          have h1 := HFE.out
          rw [if_pos hc] at h1
          exact h1.symm
        go_wp2
        go_ret
        exact ⟨by rw [HFR.out]; rfl, HBO1.out⟩
    · have hz : ¬ (k : Int) < (M.length : Int) := by omega
      have HFR : Hid (F = 0) := by
        have h1 := HFT.out
        rw [List.drop_of_length_le (by rw [msOf_length]; omega)] at h1
        exact h1.symm
      go_wp2
      go_ret
      exact ⟨by rw [HFR.out]; rfl, HBW.out.trans (HBR.out.mono HBW.out.size)⟩
end Go.Proofs.Ytpmcpomomagkhaa
