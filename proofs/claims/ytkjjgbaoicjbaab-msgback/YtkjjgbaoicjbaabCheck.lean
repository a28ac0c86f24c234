/- sized, formed, Check, Bytes. -/
import Derived.Test.YtkjjgbaoicjbaabGet
namespace Go.Proofs.Ytkjjgbaoicjbaab
open Go.RowKit

set_option maxHeartbeats 800000 in
set_option maxRecDepth 100000 in
theorem sized_any (w : World) (z : Int) : Calls Try.prog 19 #[.int .i64 z] w fun r w' => r = .returned (.bool (decide (Sized z))) ∧ w' = w := by
  by_cases h : Sized z
  · rw [decide_eq_true h]
    rcases h with rfl | rfl | rfl | rfl
    all_goals
      go_enter Try.func19, Try.ntmps19
      go_wp2
      go_ret
      exact ⟨rfl, rfl⟩
  · rw [decide_eq_false h]
    have h1 : (z == 512) = false := int_ne fun e => h (.inl e)
    have h2 : (z == 1024) = false := int_ne fun e => h (.inr (.inl e))
    have h3 : (z == 2048) = false := int_ne fun e => h (.inr (.inr (.inl e)))
    have h4 : (z == 4096) = false := int_ne fun e => h (.inr (.inr (.inr e)))
    clear h
    go_enter Try.func19, Try.ntmps19
    go_wp2
    go_ret
    exact ⟨rfl, rfl⟩

set_option maxHeartbeats 3200000 in
set_option maxRecDepth 100000 in
theorem formed_any {w : World} {x : Mt} {z : Int} (hz : Sized z) (h : x.Ok w.heap.size w) :
    Calls Try.prog 20 #[.int .i64 z, x.val] w fun r w' => r = .returned (.bool (x.m.may z.toNat)) ∧ Below w.heap.size w w' := by
  obtain ⟨v1, v2, v3, st, kd, lo, hi, va⟩ := x
  obtain ⟨a1, c1, e1⟩ := h.lo.form
  obtain ⟨a2, c2, e2⟩ := h.hi.form
  obtain ⟨a3, c3, e3⟩ := h.va.form
  simp only at e1 e2 e3
  subst e1 e2 e3
  obtain ⟨s, rfl⟩ : ∃ s : Nat, z = (s : Int) := ⟨z.toNat, by rcases hz with rfl | rfl | rfl | rfl <;> rfl⟩
  have hs : s = 512 ∨ s = 1024 ∨ s = 2048 ∨ s = 4096 := by rcases hz with h | h | h | h <;> omega
  have hd1 : (s : Int).tdiv 16 = ((s / 16 : Nat) : Int) := by rcases hs with rfl | rfl | rfl | rfl <;> rfl
  have hd2 : (s : Int).tdiv 4 = ((s / 4 : Nat) : Int) := by rcases hs with rfl | rfl | rfl | rfl <;> rfl
  have hsz : s ≤ 4096 := by omega
  rw [Int.toNat_natCast]
  clear hz hs
  obtain ⟨W, hW⟩ : ∃ W, W = w.alloc (.cells #[.int .u64 (st : Int), .int .i64 kd, .slice a1 lo.length c1, .slice a2 hi.length c2, .slice a3 va.length c3] 38) := ⟨_, rfl⟩
  have HBW : Hid (Below w.heap.size w W) := by rw [hW]; exact below_new _ _
  have HMB : Hid (W.heap[w.heap.size]? = some (.cells #[.int .u64 (st : Int), .int .i64 kd, .slice a1 lo.length c1, .slice a2 hi.length c2, .slice a3 va.length c3] 38 (0, 0))) := by rw [hW]; exact heap_alloc_last _ _
  have HOK : Hid (Mt.Ok W.heap.size W ⟨.slice a1 lo.length c1, .slice a2 hi.length c2, .slice a3 va.length c3, ⟨st, kd, lo, hi, va⟩⟩) := h.here HBW.out
  have HDO := deedOf_any HOK.out
  have hl1 := h.lo.short
  have hl2 := h.hi.short
  have hl3 := h.va.short
  simp only at hl1 hl2 hl3
  unfold Mt.val at *
  simp only at HDO ⊢
  have t1 := as_pp
  have t2 := as_dp
  have t3 := as_dd
  have t4 := as_cp
  have t5 := as_cd
  have t6 := as_cc
  have t7 := as_ip
  have t8 := as_id
  have t9 := as_ic
  clear h
  by_cases h1 : lo.length = 0
  · have h1z : ((lo.length : Int) == 0) = true := by simp [h1]
    have HR : Hid (Ms.may s ⟨st, kd, lo, hi, va⟩ = false) := by simp [Hid, Ms.may, h1]
    clear h1 HDO
    go_enter Try.func20, Try.ntmps20
    go_wp2
    go_ret
    rw [← hW]
    exact ⟨by rw [HR.out]; rfl, HBW.out⟩
  · have h1z : ((lo.length : Int) == 0) = false := int_ne (by omega)
    by_cases h2 : s / 16 < lo.length
    · have h2z : (s : Int) / 16 < (lo.length : Int) := by omega
      have HR : Hid (Ms.may s ⟨st, kd, lo, hi, va⟩ = false) := by
        rw [Hid, Ms.may, decide_eq_false (by simp only; omega)]; rfl
      clear h1 HDO
      go_enter Try.func20, Try.ntmps20
      go_wp2
      go_ret
      rw [← hW]
      exact ⟨by rw [HR.out]; rfl, HBW.out⟩
    · have h2z : ¬ (s : Int) / 16 < (lo.length : Int) := by omega
      have HLO : Hid (decide (1 ≤ lo.length ∧ lo.length ≤ s / 16) = true) := by rw [Hid, decide_eq_true_eq]; omega
      go_enter Try.func20, Try.ntmps20
      go_wp2_with fail
      rw [← hW]
      clear hW
      refine HDO.mono ?_
      rintro r w1 ⟨rfl, hb1⟩
      have HB1 : Hid (Below W.heap.size W w1) := hb1
      have HBW1 : Hid (Below w.heap.size w w1) := HBW.out.trans (hb1.mono HBW.out.size)
      have hmb : w1.heap[w.heap.size]? = some (.cells #[.int .u64 (st : Int), .int .i64 kd, .slice a1 lo.length c1, .slice a2 hi.length c2, .slice a3 va.length c3] 38 (0, 0)) := by
        rw [hb1.block _ (Array.getElem?_eq_some_iff.1 HMB.out).1]; exact HMB.out
      have m3 : w1.cell? ⟨w.heap.size, 3, none⟩ = some (.slice a2 hi.length c2) := by rw [row_cell hmb]; rfl
      have m4 : w1.cell? ⟨w.heap.size, 4, none⟩ = some (.slice a3 va.length c3) := by rw [row_cell hmb]; rfl
      have hlt := (Array.getElem?_eq_some_iff.1 hmb).1
      have HO1 : Hid _ := HOK.out.here hb1
      clear hmb hb1 HDO h1 h2
      unfold deedV
      simp only
      have nil_of : ∀ {k : Key}, k.length = 0 → k = [] := fun {k} h => List.eq_nil_of_length_eq_zero h
      by_cases k1 : kd = 1
      · subst k1
        have HA : Hid (Below w.heap.size w (w1.alloc (.cells #[.slice a1 lo.length c1, .slice a3 va.length c3] 76))) := HBW1.out.alloc HBW1.out.size _
        by_cases hh : hi.length = 0
        · have hhz : ((hi.length : Int) == 0) = true := by simp [hh]
          have HR : Hid (Ms.may s ⟨st, 1, lo, hi, va⟩ = decide ((va.length : Int) ≤ (s : Int) / 4)) := by
            unfold Hid Ms.may
            rw [HLO.out, Bool.true_and, if_pos rfl, Bool.eq_iff_iff]
            simp only [nil_of hh, decide_eq_true_eq, true_and]
            omega
          clear hh nil_of
          go_wp2
          go_ret
          exact ⟨by rw [HR.out]; rfl, HA.out⟩
        · have hhz : ((hi.length : Int) == 0) = false := int_ne (by omega)
          have HR : Hid (Ms.may s ⟨st, 1, lo, hi, va⟩ = false) := by
            unfold Hid Ms.may
            rw [HLO.out, Bool.true_and, if_pos rfl, decide_eq_false_iff_not]
            rintro ⟨h, _⟩
            simp only at h
            rw [h] at hh; exact hh rfl
          clear hh nil_of
          go_wp2
          go_ret
          exact ⟨by rw [HR.out]; rfl, HA.out⟩
      · rw [if_neg k1]
        by_cases k2 : kd = 2
        · subst k2
          have HA : Hid (Below w.heap.size w (w1.alloc (.cells #[.slice a1 lo.length c1] 78))) := HBW1.out.alloc HBW1.out.size _
          by_cases hh : hi.length = 0
          · have hhz : ((hi.length : Int) == 0) = true := by simp [hh]
            have HR : Hid (Ms.may s ⟨st, 2, lo, hi, va⟩ = ((va.length : Int) == 0)) := by
              unfold Hid Ms.may
              rw [HLO.out, Bool.true_and, if_neg (by simp), if_pos rfl, Bool.eq_iff_iff]
              simp only [nil_of hh, decide_eq_true_eq, true_and, beq_iff_eq]
              constructor
              · intro h; rw [h]; rfl
              · intro h; exact nil_of (by omega)
            clear hh nil_of k1
            go_wp2
            go_ret
            exact ⟨by rw [HR.out]; rfl, HA.out⟩
          · have hhz : ((hi.length : Int) == 0) = false := int_ne (by omega)
            have HR : Hid (Ms.may s ⟨st, 2, lo, hi, va⟩ = false) := by
              unfold Hid Ms.may
              rw [HLO.out, Bool.true_and, if_neg (by simp), if_pos rfl, decide_eq_false_iff_not]
              rintro ⟨h, _⟩
              simp only at h
              rw [h] at hh; exact hh rfl
            clear hh nil_of k1
            go_wp2
            go_ret
            exact ⟨by rw [HR.out]; rfl, HA.out⟩
        · rw [if_neg k2]
          by_cases k3 : kd = 3
          · subst k3
            obtain ⟨W2, hW2⟩ : ∃ W2, W2 = w1.alloc (.cells #[.slice a1 lo.length c1, .slice a2 hi.length c2] 80) := ⟨_, rfl⟩
            have HA : Hid (Below w.heap.size w W2) := by rw [hW2]; exact HBW1.out.alloc HBW1.out.size _
            have HA1 : Hid (Below w1.heap.size w1 W2) := by rw [hW2]; exact below_new _ _
            have HMAY : Hid (Ms.may s ⟨st, 3, lo, hi, va⟩ = decide (hi.length ≤ s / 16 ∧ lo < hi ∧ va = [])) := by
              unfold Hid Ms.may
              rw [HLO.out, Bool.true_and, if_neg (by simp), if_neg (by simp), if_pos rfl]
            clear k1 k2
            by_cases hq : hi.length ≤ s / 16
            · have hqz : (hi.length : Int) ≤ (s : Int) / 16 := by omega
              have HCK := cutKeys_any (Nat.le_refl _) (Mt.Ok.here HO1.out HA1.out).lo (Mt.Ok.here HO1.out HA1.out).hi
              simp only at HCK
              go_wp2_with fail
              rw [← hW2]
              clear hW2
              refine HCK.mono ?_
              rintro r w3 ⟨y1, y2, rfl, g1, g2, hb3⟩
              have HEM := empty_any (r := ⟨lo, hi, false⟩) ⟨y1, y2, rfl, g1.at hb3.size, g2.at hb3.size⟩
              have HB3 : Hid (Below w.heap.size w w3) := HA.out.trans (hb3.mono HA.out.size)
              have HB13 : Hid (Below w1.heap.size w1 w3) := HA1.out.trans (hb3.mono HA1.out.size)
              clear g1 g2 hb3 HCK
              go_wp2_with fail
              refine HEM.mono ?_
              rintro r w4 ⟨rfl, hb4⟩
              have HB4 : Hid (Below w.heap.size w w4) := HB3.out.trans (hb4.mono HB3.out.size)
              have m4' : w4.cell? ⟨w.heap.size, 4, none⟩ = some (.slice a3 va.length c3) := by
                rw [(HB13.out.trans (hb4.mono HB13.out.size)).cell hlt]; exact m4
              clear hb4 HEM
              cases he : Rg.empty ⟨lo, hi, false⟩ with
              | true =>
                have HR : Hid (Ms.may s ⟨st, 3, lo, hi, va⟩ = false) := by
                  rw [Hid, HMAY.out, decide_eq_false_iff_not]
                  rintro ⟨_, h, _⟩
                  simp only [Rg.empty, Bool.not_false, Bool.true_and, decide_eq_true_eq] at he
                  grind
                clear he nil_of hq
                go_wp2
                go_ret
                exact ⟨by rw [HR.out]; rfl, HB4.out⟩
              | false =>
                have HR : Hid (Ms.may s ⟨st, 3, lo, hi, va⟩ = ((va.length : Int) == 0)) := by
                  rw [Hid, HMAY.out, Bool.eq_iff_iff, decide_eq_true_eq, beq_iff_eq]
                  simp only [Rg.empty, Bool.not_false, Bool.true_and, decide_eq_false_iff_not] at he
                  constructor
                  · rintro ⟨_, _, h⟩; rw [h]; rfl
                  · intro h; exact ⟨hq, by grind, nil_of (by omega)⟩
                clear he nil_of hq
                go_wp2
                go_ret
                exact ⟨by rw [HR.out]; rfl, HB4.out⟩
            · have hqz : decide ((hi.length : Int) ≤ (s : Int) / 16) = false := by rw [decide_eq_false_iff_not]; omega
              have hqz' : ¬ (hi.length : Int) ≤ (s : Int) / 16 := by omega
              have HR : Hid (Ms.may s ⟨st, 3, lo, hi, va⟩ = false) := by
                rw [Hid, HMAY.out, decide_eq_false_iff_not]
                rintro ⟨h, _⟩; exact hq h
              clear hq nil_of
              go_wp2
              go_ret
              rw [← hW2]
              exact ⟨by rw [HR.out]; rfl, HA.out⟩
          · rw [if_neg k3]
            have HR : Hid (Ms.may s ⟨st, kd, lo, hi, va⟩ = false) := by
              unfold Hid Ms.may
              rw [if_neg k1, if_neg k2, if_neg k3, Bool.and_false]
            clear k1 k2 k3 nil_of
            go_wp2
            go_ret
            exact ⟨by rw [HR.out]; rfl, HBW1.out⟩
end Go.Proofs.Ytkjjgbaoicjbaab
