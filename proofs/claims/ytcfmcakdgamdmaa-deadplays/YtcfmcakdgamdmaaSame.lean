/- The law's sameInts, sameLives. -/
import Derived.Test.YtcfmcakdgamdmaaSort12
namespace Go.Proofs.Ytcfmcakdgamdmaa
open Go.RowKit

theorem take_step {α : Type} {x y : List α} {k : Nat} {c : α} (h : x.take k = y.take k) (hx : x[k]? = some c) (hy : y[k]? = some c) : x.take (k + 1) = y.take (k + 1) := by
  rw [List.take_add_one, List.take_add_one, h, hx, hy]
theorem draws_add (w : World) (p q : Nat) : (w.drewN p).drewN q = w.drewN (p + q) := by
  simp [World.drewN, Nat.add_assoc]
set_option maxHeartbeats 800000 in
set_option maxRecDepth 100000 in
theorem sameInts_any {w : World} {v u : Value} {x y : List Int} (hx : IntsAt w v x) (hy : IntsAt w u y) (hs : x.length ≤ 140737488355328) :
    Calls Try.prog 19 #[v, u] w fun e w' => e = .returned (.bool (decide (x = y))) ∧ ∃ q, w' = w.drewN q := by
  obtain ⟨a, ca, rfl⟩ := hx.form
  obtain ⟨b, cb, rfl⟩ := hy.form
  have HX : Hid _ := hx
  have HY : Hid _ := hy
  clear hx hy
  by_cases hl : x.length = y.length
  · have hlz : (x.length : Int) = (y.length : Int) := by omega
    have hlb : ((x.length : Int) != (y.length : Int)) = false := by simp [hl]
    have HLH : Hid (x.length = y.length) := hl
    clear hl
    go_enter Try.func19, Try.ntmps19
    go_wp2_with fail
    go_loopw [5] (fun i wx => ∃ k : Nat, k ≤ x.length ∧ i = .int .i64 k ∧ x.take k = y.take k ∧ ∃ q, wx = w.drewN q) (fun i _ => x.length - (intOf i).toNat)
    case atStart => exact ⟨0, Nat.zero_le _, rfl, by simp, 0, rfl⟩
    case round =>
      obtain ⟨k, hk, rfl, ht, q, rfl⟩ := hrel
      have HT : Hid _ := ht
      clear ht hlb
      by_cases hlt : k < x.length
      · have h1z : (k : Int) < (x.length : Int) := by omega
        have h2z : (k : Int) < (y.length : Int) := by omega
        obtain ⟨p, hp⟩ : ∃ p, x[k]? = some p := ⟨_, List.getElem?_eq_getElem hlt⟩
        obtain ⟨r, hr⟩ : ∃ r, y[k]? = some r := ⟨_, List.getElem?_eq_getElem (by have := HLH.out; omega)⟩
        obtain ⟨g1, o1, rfl, _, c1⟩ := ints_cell HX.out hp
        obtain ⟨g2, o2, rfl, _, c2⟩ := ints_cell HY.out hr
        have HP : Hid _ := hp
        have HR : Hid _ := hr
        clear hp hr hlz
        by_cases e : p = r
        · subst e
          go_wp2_with fail
          go_quiet (fail)
          go_wp2_with fail
          exact ⟨⟨k + 1, by omega, by go_num, take_step HT.out HP.out HR.out, _, rfl⟩, by simp [intOf]; omega⟩
        · have hne : (p != r) = true := by simpa using e
          have HE : Hid (decide (x = y) = false) := by
            show _ = _
            rw [decide_eq_false_iff_not]
            intro hh
            have h1 := HP.out
            have h2 := HR.out
            rw [hh, h2] at h1
            cases h1
            exact e rfl
          go_wp2_with fail
          go_quiet (fail)
          go_wp2_with fail
          go_ret
          exact ⟨by rw [HE.out]; rfl, _, draws_add w q _⟩
      · have h1z : ¬ (k : Int) < (x.length : Int) := by omega
        have HE : Hid (decide (x = y) = true) := by
          show _ = _
          rw [decide_eq_true_iff]
          have h1 := HT.out
          have h2 := HLH.out
          rw [List.take_of_length_le (by omega), List.take_of_length_le (by omega)] at h1
          exact h1
        clear hlz
        go_wp2_with fail
        go_ret
        exact ⟨by rw [HE.out]; rfl, _, rfl⟩
  · have hlb : ((x.length : Int) != (y.length : Int)) = true := by simp; omega
    have HE : Hid (decide (x = y) = false) := by
      show _ = _
      rw [decide_eq_false_iff_not]
      intro hh
      exact hl (by rw [hh])
    go_enter Try.func19, Try.ntmps19
    go_wp2_with fail
    go_ret
    exact ⟨by rw [HE.out]; rfl, 0, rfl⟩
set_option maxHeartbeats 800000 in
set_option maxRecDepth 100000 in
theorem sameLives_any {w : World} {v u : Value} {x y : List Lf} (hx : LivesAt w v x) (hy : LivesAt w u y) (hs : x.length ≤ 140737488355328) :
    Calls Try.prog 13 #[v, u] w fun e w' => e = .returned (.bool (decide (x = y))) ∧ ∃ q, w' = w.drewN q := by
  obtain ⟨a, ca, rfl⟩ := hx.form
  obtain ⟨b, cb, rfl⟩ := hy.form
  have HX : Hid _ := hx
  have HY : Hid _ := hy
  clear hx hy
  by_cases hl : x.length = y.length
  · have hlz : (x.length : Int) = (y.length : Int) := by omega
    have hlb : ((x.length : Int) != (y.length : Int)) = false := by simp [hl]
    have HLH : Hid (x.length = y.length) := hl
    clear hl
    go_enter Try.func13, Try.ntmps13
    go_wp2_with fail
    go_loopw [5] (fun i wx => ∃ k : Nat, k ≤ x.length ∧ i = .int .i64 k ∧ x.take k = y.take k ∧ ∃ q, wx = w.drewN q) (fun i _ => x.length - (intOf i).toNat)
    case atStart => exact ⟨0, Nat.zero_le _, rfl, by simp, 0, rfl⟩
    case round =>
      obtain ⟨k, hk, rfl, ht, q, rfl⟩ := hrel
      have HT : Hid _ := ht
      clear ht hlb
      by_cases hlt : k < x.length
      · have h1z : (k : Int) < (x.length : Int) := by omega
        have h2z : (k : Int) < (y.length : Int) := by omega
        obtain ⟨p, hp⟩ : ∃ p, x[k]? = some p := ⟨_, List.getElem?_eq_getElem hlt⟩
        obtain ⟨r, hr⟩ : ∃ r, y[k]? = some r := ⟨_, List.getElem?_eq_getElem (by have := HLH.out; omega)⟩
        obtain ⟨g1, o1, rfl, _, c0, c1, c2⟩ := lives_cell HX.out hp
        obtain ⟨g2, o2, rfl, _, d0, d1, d2⟩ := lives_cell HY.out hr
        have HP : Hid _ := hp
        have HR : Hid _ := hr
        clear hp hr hlz
        obtain ⟨p1, p2, p3⟩ := p
        obtain ⟨r1, r2, r3⟩ := r
        simp only at c0 c1 c2 d0 d1 d2
        by_cases e : p1 = r1 ∧ p2 = r2 ∧ p3 = r3
        · obtain ⟨rfl, rfl, rfl⟩ := e
          go_wp2_with fail
          go_quiet (fail)
          all_goals
            go_wp2_with fail
            exact ⟨⟨k + 1, by omega, by go_num, take_step HT.out HP.out HR.out, _, rfl⟩, by simp [intOf]; omega⟩
        · have HE : Hid (decide (x = y) = false) := by
            show _ = _
            rw [decide_eq_false_iff_not]
            intro hh
            have h1 := HP.out
            have h2 := HR.out
            rw [hh, h2] at h1
            cases h1
            exact e ⟨rfl, rfl, rfl⟩
          by_cases e1 : p1 = r1
          · subst e1
            by_cases e2 : p2 = r2
            · subst e2
              have e3 : ¬ p3 = r3 := fun h => e ⟨rfl, rfl, h⟩
              have b3 : (p3 == r3) = false := by simpa using e3
              have n3 : (p3 != r3) = true := by simpa using e3
              go_wp2_with fail
              go_quiet (fail)
              all_goals
                go_wp2_with fail
                go_ret
                exact ⟨by rw [HE.out]; rfl, _, draws_add w q _⟩
            · have b2 : (p2 == r2) = false := by simpa using e2
              have n2 : (p2 != r2) = true := by simpa using e2
              go_wp2_with fail
              go_quiet (fail)
              all_goals
                go_wp2_with fail
                go_ret
                exact ⟨by rw [HE.out]; rfl, _, draws_add w q _⟩
          · have b1 : (p1 == r1) = false := by simpa using e1
            have n1 : (p1 != r1) = true := by simpa using e1
            go_wp2_with fail
            go_quiet (fail)
            all_goals
              go_wp2_with fail
              go_ret
              exact ⟨by rw [HE.out]; rfl, _, draws_add w q _⟩
      · have h1z : ¬ (k : Int) < (x.length : Int) := by omega
        have HE : Hid (decide (x = y) = true) := by
          show _ = _
          rw [decide_eq_true_iff]
          have h1 := HT.out
          have h2 := HLH.out
          rw [List.take_of_length_le (by omega), List.take_of_length_le (by omega)] at h1
          exact h1
        clear hlz
        go_wp2_with fail
        go_ret
        exact ⟨by rw [HE.out]; rfl, _, rfl⟩
  · have hlb : ((x.length : Int) != (y.length : Int)) = true := by simp; omega
    have HE : Hid (decide (x = y) = false) := by
      show _ = _
      rw [decide_eq_false_iff_not]
      intro hh
      exact hl (by rw [hh])
    go_enter Try.func13, Try.ntmps13
    go_wp2_with fail
    go_ret
    exact ⟨by rw [HE.out]; rfl, 0, rfl⟩
end Go.Proofs.Ytcfmcakdgamdmaa
