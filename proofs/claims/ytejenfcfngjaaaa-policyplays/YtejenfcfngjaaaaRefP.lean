/- The document's chooser. -/
import Derived.Test.YtejenfcfngjaaaaChoose
namespace Go.Proofs.Ytejenfcfngjaaaa
open Go.RowKit

set_option maxHeartbeats 1600000 in
set_option maxRecDepth 100000 in
theorem rcheck_any {w : World} {kind : Int} {a : Option Addr} {n : Nat} {picks : List Int} :
    Calls Try.prog 21 #[.agg #[.int .i64 kind, .slice a picks.length n]] w fun e w' => e = .returned (.int .i64 (polE kind picks)) ∧ Below w.heap.size w w' := by
  by_cases h1 : kind < 1
  · have HP : Hid (polE kind picks = 161) := by
      unfold Hid polE okP
      rw [if_neg]
      simp only [Bool.and_eq_true, decide_eq_true_eq]
      omega
    rw [HP.out]
    clear HP
    go_enter Try.func21, Try.ntmps21
    go_wp2
    go_ret
    exact ⟨rfl, below_new _ _⟩
  by_cases h2 : kind > 4
  · have HP : Hid (polE kind picks = 161) := by
      unfold Hid polE okP
      rw [if_neg]
      simp only [Bool.and_eq_true, decide_eq_true_eq]
      omega
    rw [HP.out]
    clear HP
    go_enter Try.func21, Try.ntmps21
    go_wp2
    go_ret
    exact ⟨rfl, below_new _ _⟩
  by_cases h3 : picks.length > 0
  · have h3z : (picks.length : Int) > 0 := by omega
    by_cases h4 : kind = 4
    · subst h4
      by_cases hl : picks.length > 65536
      · have hlz : (picks.length : Int) > 65536 := by omega
        have HP : Hid (polE 4 picks = 161) := by
          unfold Hid polE okP
          rw [if_neg]
          simp only [Bool.and_eq_true, Bool.or_eq_true, decide_eq_true_eq]
          omega
        rw [HP.out]
        clear HP h1 h2
        go_enter Try.func21, Try.ntmps21
        go_wp2
        go_ret
        exact ⟨rfl, below_new _ _⟩
      · have hlz : ¬ (picks.length : Int) > 65536 := by omega
        have HP : Hid (polE 4 picks = 0) := by
          unfold Hid polE okP
          have hx : decide (picks.length ≤ 65536) = true := decide_eq_true (by omega)
          rw [if_pos]
          rw [hx]
          simp
        rw [HP.out]
        clear HP h1 h2
        go_enter Try.func21, Try.ntmps21
        go_wp2
        go_ret
        exact ⟨rfl, below_new _ _⟩
    · have hk4 : (kind == 4) = false := by rw [beq_eq_false_iff_ne]; exact h4
      have hk5 : (kind != 4) = true := by rw [bne_iff_ne]; exact h4
      have HP : Hid (polE kind picks = 161) := by
        unfold Hid polE okP
        rw [if_neg]
        simp only [Bool.and_eq_true, Bool.or_eq_true, decide_eq_true_eq]
        omega
      rw [HP.out]
      clear HP
      go_enter Try.func21, Try.ntmps21
      go_wp2
      go_ret
      exact ⟨rfl, below_new _ _⟩
  · have h3z : ¬ (picks.length : Int) > 0 := by omega
    have HP : Hid (polE kind picks = 0) := by
      unfold Hid polE okP
      rw [if_pos]
      simp only [Bool.and_eq_true, Bool.or_eq_true, decide_eq_true_eq]
      omega
    rw [HP.out]
    clear HP
    go_enter Try.func21, Try.ntmps21
    go_wp2
    go_ret
    exact ⟨rfl, below_new _ _⟩
set_option maxHeartbeats 1600000 in
set_option maxRecDepth 100000 in
theorem rchosen_any {base b : Nat} {w : World} {v pv u : Value} {c : Ch} {W C : List Int} (h : RefAt base w b pv c) (hv : IntsAt w v W) (hu : IntsAt w u C) (hC : Cands W C) (h0 : C ≠ []) (hs : W.length ≤ 140737488355328) :
    Calls Try.prog 24 #[.pointer (some ⟨b, 0, none⟩), u, v] w fun e w' => e = .returned (.int .i64 (c.chosen W C)) ∧ Below w.heap.size w w' := by
  have c0 : w.cell? ⟨b, 0, none⟩ = some (.int .i64 c.kind) := h.cell 0
  have c1 : w.cell? ⟨b, 1, none⟩ = some pv := h.cell 1
  have c2 : w.cell? ⟨b, 2, none⟩ = some (.int .i64 c.last) := h.cell 2
  have c3 : w.cell? ⟨b, 3, none⟩ = some (.int .i64 (c.count : Int)) := h.cell 3
  have hl : 0 < C.length := List.length_pos_iff.2 h0
  have hcl := hC.len
  obtain ⟨x0, hx0⟩ : ∃ x, C[0]? = some x := ⟨_, List.getElem?_eq_getElem hl⟩
  obtain ⟨au, nu, rfl⟩ := hu.form
  obtain ⟨gu, ou, rfl, hgu, k0⟩ := ints_cell hu hx0
  rw [Nat.add_zero] at k0
  have hhd : C.headD 0 = x0 := by
    cases C with
    | nil => simp at hx0
    | cons y C => simpa using hx0
  have HU : Hid (IntsAt w (.slice (some ⟨gu, ou, none⟩) C.length nu) C) := hu
  by_cases hk : c.kind = 2
  · rw [show c.chosen W C = nextOf C c.last by unfold Ch.chosen; rw [if_pos hk]]
    have hk2 : (c.kind == 2) = true := by rw [beq_iff_eq]; exact hk
    have HX0 : Hid (C.headD 0 = x0) := hhd
    clear h hv hu hC h0 hx0 hk hhd
    go_enter Try.func24, Try.ntmps24
    go_wp2_with fail
    go_loopw [7] (fun i wx => ∃ k : Nat, k ≤ C.length ∧ i = .int .i64 k ∧ (∀ x ∈ C.take k, x ≤ c.last) ∧ ∃ n, wx = w.drewN n) (fun i _ => C.length - (intOf i).toNat)
    case atStart => exact ⟨0, Nat.zero_le _, rfl, by simp, 0, rfl⟩
    case round =>
      obtain ⟨k, hkl, rfl, ha, n, rfl⟩ := hrel
      have HA : Hid (∀ x ∈ C.take k, x ≤ c.last) := ha
      clear ha
      by_cases hlt : k < C.length
      · have hltz : (k : Int) < (C.length : Int) := by omega
        obtain ⟨x, hx⟩ : ∃ x, C[k]? = some x := ⟨_, List.getElem?_eq_getElem hlt⟩
        obtain ⟨g', off', e', _, k1⟩ := ints_cell HU.out hx
        cases e'
        have HXK : Hid (C[k]? = some x) := hx
        clear hx
        by_cases hgt : x > c.last
        · have HR : Hid (nextOf C c.last = x) := by
            unfold Hid nextOf
            have hf : C.find? (fun x => decide (c.last < x)) = some x := by
              obtain ⟨hk1, hk3⟩ := List.getElem?_eq_some_iff.1 HXK.out
              rw [List.find?_eq_some_iff_getElem]
              refine ⟨by simpa using hgt, k, hk1, hk3, fun j hj => ?_⟩
              have := HA.out C[j] (List.mem_take_iff_getElem.2 ⟨j, by omega, rfl⟩)
              simpa using this
            rw [hf]
            rfl
          clear HXK
          go_wp2_with fail
          go_quiet (fail)
          go_wp2_with fail
          go_ret
          exact ⟨by rw [HR.out]; rfl, below_draws (Below.refl _ _) _⟩
        · have HA2 : Hid (∀ y ∈ C.take (k + 1), y ≤ c.last) := fun y hy => by
            rw [List.take_add_one, HXK.out] at hy
            rcases List.mem_append.1 hy with h | h
            · exact HA.out y h
            · simp at h; rw [h]; omega
          clear HXK
          go_wp2_with fail
          go_quiet (fail)
          go_wp2_with fail
          exact ⟨⟨k + 1, by omega, by go_num, HA2.out, _, rfl⟩, by simp [intOf]; omega⟩
      · have hltz : ¬ (k : Int) < (C.length : Int) := by omega
        have HR : Hid (nextOf C c.last = x0) := by
          unfold Hid nextOf
          have hf : C.find? (fun x => decide (c.last < x)) = none := by
            rw [List.find?_eq_none]
            intro y hy
            have := HA.out y (by rw [List.take_of_length_le (by omega)]; exact hy)
            simpa using this
          rw [hf]
          exact HX0.out
        go_wp2_with fail
        go_ret
        exact ⟨by rw [HR.out]; rfl, below_draws (Below.refl _ _) _⟩
  · have hk2 : (c.kind == 2) = false := by rw [beq_eq_false_iff_ne]; exact hk
    by_cases hs4 : c.kind = 4 ∧ c.picks ≠ []
    · obtain ⟨h4, hp⟩ := hs4
      rw [show c.chosen W C = C.getD ((fold c.pick).toNat % C.length) 0 by unfold Ch.chosen; rw [if_neg hk, if_pos ⟨h4, hp⟩]]
      have h4z : (c.kind == 4) = true := by rw [beq_iff_eq]; exact h4
      obtain ⟨ap, cp, epv⟩ := own_slice h.row
      have hmany := h.ok.many
      have hsh := h.ok.short
      have hpl : 0 < c.picks.length := List.length_pos_iff.2 hp
      have hpz : (c.picks.length : Int) > 0 := by omega
      have hpz2 : ¬ (c.picks.length : Int) = 0 := by omega
      have hm2 : c.count % c.picks.length < c.picks.length := Nat.mod_lt _ hpl
      obtain ⟨y, hy⟩ : ∃ y, c.picks[c.count % c.picks.length]? = some y := ⟨_, List.getElem?_eq_getElem hm2⟩
      have hpick : c.pick = y := by unfold Ch.pick; rw [List.getD_eq_getElem?_getD, hy]; rfl
      have hyr := h.ok.pick y (List.mem_of_getElem? hy)
      have hr := RowAt.own h.row
      subst epv
      obtain ⟨g, off, rfl, hg, k3⟩ := ints_cell hr hy
      have hq0 : (0 : Int) ≤ (c.count : Int) % (c.picks.length : Int) := by omega
      have hq1 : (c.count : Int) % (c.picks.length : Int) < (c.picks.length : Int) := by omega
      have hq2 : ((c.count : Int) % (c.picks.length : Int)).toNat = c.count % c.picks.length := by omega
      rw [hpick]
      obtain ⟨q, hq⟩ : ∃ q : Nat, fold y = (q : Int) ∧ (q : Int) ≤ 9223372036854775807 := by
        refine ⟨(fold y).toNat, ?_, ?_⟩ <;> unfold fold <;> split <;> omega
      obtain ⟨hq, hqm⟩ := hq
      rw [hq, Int.toNat_natCast]
      have hm5 : q % C.length < C.length := Nat.mod_lt _ hl
      obtain ⟨z, hz⟩ : ∃ z, C[q % C.length]? = some z := ⟨_, List.getElem?_eq_getElem hm5⟩
      obtain ⟨g2, off2, e2, hg2, k2⟩ := ints_cell hu hz
      cases e2
      have HR : Hid (C.getD (q % C.length) 0 = z) := by rw [Hid, List.getD_eq_getElem?_getD, hz]; rfl
      rw [HR.out]
      clear HR
      have hlz : ¬ (C.length : Int) = 0 := by omega
      have hr0 : (0 : Int) ≤ (q : Int) % (C.length : Int) := by omega
      have hr1 : (q : Int) % (C.length : Int) < (C.length : Int) := by omega
      have hr2 : ((q : Int) % (C.length : Int)).toNat = q % C.length := by omega
      clear h hv hu hC h0 hp hy hpick hr hz hx0 hhd h4 hk
      by_cases hn : y < 0
      · rw [fold_neg hn] at hq
        have hw1 : IntKind.i64.wrap (-(y + 1)) = (q : Int) := by rw [hq]; exact IntWalk.i64_in _ ⟨by omega, by omega⟩
        go_enter Try.func24, Try.ntmps24
        go_wp2_with fail
        go_quiet (fail)
        go_wp2_with fail
        go_ret
        exact ⟨rfl, below_draws (Below.refl _ _) _⟩
      · rw [fold_pos hn] at hq
        subst hq
        go_enter Try.func24, Try.ntmps24
        go_wp2_with fail
        go_quiet (fail)
        go_wp2_with fail
        go_simp
        go_wp2_with fail
        go_ret
        exact ⟨rfl, below_draws (Below.refl _ _) _⟩
    · have hC1 : c.chosen W C = bestTo W C C.length := by unfold Ch.chosen; rw [if_neg hk, if_neg hs4]
      rw [hC1]
      obtain ⟨av, nv, rfl⟩ := hv.form
      have HV : Hid (IntsAt w (.slice av W.length nv) W) := hv
      have HCA : Hid (Cands W C) := hC
      have HM : Hid (∀ k, bestTo W C k ∈ C) := fun k => bestTo_mem h0
      have HX0 : Hid (bestTo W C 0 = x0) := by rw [Hid, bestTo_zero]; exact hhd
      obtain ⟨ap, cp, rfl⟩ := own_slice h.row
      have hcase : ((c.kind == 4) = true ∧ ¬ (c.picks.length : Int) > 0) ∨ ((c.kind == 4) = false) := by
        by_cases h4 : c.kind = 4
        · refine .inl ⟨by rw [beq_iff_eq]; exact h4, ?_⟩
          by_cases hp : c.picks = []
          · rw [hp]; simp
          · exact absurd ⟨h4, hp⟩ hs4
        · exact .inr (by rw [beq_eq_false_iff_ne]; exact h4)
      clear hC1 hv hu h hC h0 hx0 hhd hk hs4
      rcases hcase with ⟨h4, hp⟩ | h4
      all_goals
        go_enter Try.func24, Try.ntmps24
        go_wp2_with fail
        go_loopw [9, 10] (fun m i wx => ∃ k : Nat, k ≤ C.length ∧ i = .int .i64 k ∧ m = .int .i64 (bestTo W C k) ∧ ∃ n, wx = w.drewN n) (fun _ i _ => C.length - (intOf i).toNat)
        case atStart => exact ⟨0, Nat.zero_le _, rfl, by rw [HX0.out], 0, rfl⟩
        case round =>
          obtain ⟨k, hkl, rfl, rfl, n, rfl⟩ := hrel
          by_cases hlt : k < C.length
          · have hltz : (k : Int) < (C.length : Int) := by omega
            obtain ⟨x, hx⟩ : ∃ x, C[k]? = some x := ⟨_, List.getElem?_eq_getElem hlt⟩
            obtain ⟨g', off', e', _, k1⟩ := ints_cell HU.out hx
            cases e'
            have HNX := bestTo_next (W := W) hx
            obtain ⟨i, rfl, hi⟩ := cands_at HCA.out (List.mem_of_getElem? hx)
            obtain ⟨j, hj, hjl⟩ := cands_at HCA.out (HM.out k)
            obtain ⟨wi, hwi⟩ : ∃ x, W[i]? = some x := ⟨_, List.getElem?_eq_getElem hi⟩
            obtain ⟨wj, hwj⟩ : ∃ x, W[j]? = some x := ⟨_, List.getElem?_eq_getElem hjl⟩
            rw [hj] at HNX ⊢
            unfold better at HNX
            rw [wt_at hwi, wt_at hwj] at HNX
            obtain ⟨gw, ow, ew, _, ki⟩ := ints_cell HV.out hwi
            obtain ⟨gw', ow', ew', _, kj⟩ := ints_cell HV.out hwj
            rw [ew] at ew'
            cases ew'
            subst ew
            have hiz : (i : Int) < (W.length : Int) := by omega
            have hjz : (j : Int) < (W.length : Int) := by omega
            have HN : Hid _ := HNX
            clear hx hj HNX hwi hwj
            by_cases hd : wi > wj
            · have HN2 : Hid (bestTo W C (k + 1) = (i : Int)) := by rw [Hid, HN.out, if_pos hd]
              go_wp2_with fail
              go_quiet (fail)
              go_wp2_with fail
              exact ⟨⟨k + 1, by omega, by go_num, by rw [HN2.out], _, rfl⟩, by simp [intOf]; omega⟩
            · have HN2 : Hid (bestTo W C (k + 1) = (j : Int)) := by rw [Hid, HN.out, if_neg hd]
              go_wp2_with fail
              go_quiet (fail)
              go_wp2_with fail
              exact ⟨⟨k + 1, by omega, by go_num, by rw [HN2.out], _, rfl⟩, by simp [intOf]; omega⟩
          · have hltz : ¬ (k : Int) < (C.length : Int) := by omega
            have HK : Hid (k = C.length) := by rw [Hid]; omega
            go_wp2_with fail
            go_ret
            exact ⟨by rw [HK.out]; rfl, below_draws (Below.refl _ _) _⟩
end Go.Proofs.Ytejenfcfngjaaaa
