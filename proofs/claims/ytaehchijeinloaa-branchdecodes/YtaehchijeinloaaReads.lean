/- roomOf, fit, Bytes, Child, rise. -/
import Derived.Test.YtaehchijeinloaaKids
import Derived.Test.YtaehchijeinloaaStaysPure
namespace Go.Proofs.Ytaehchijeinloaa
open Go.RowKit

theorem wrap_add (a b : Int) : wrap64 (wrap64 a + b) = wrap64 (a + b) := by unfold wrap64; omega
theorem wrap_sub (a b : Int) : wrap64 (wrap64 a - b) = wrap64 (a - b) := by unfold wrap64; omega
theorem wrap_of (a : Int) (h0 : -9223372036854775808 ≤ a) (h1 : a ≤ 9223372036854775807) : wrap64 a = a := by unfold wrap64; omega
theorem wrapk_of (a : Int) (h0 : -9223372036854775808 ≤ a) (h1 : a ≤ 9223372036854775807) : IntKind.i64.wrap a = a := by
  simp [IntKind.wrap, IntKind.bits, IntKind.signed]; omega

set_option maxHeartbeats 800000 in
set_option maxRecDepth 100000 in
theorem roomOf_any (w : World) (z : Int) : Calls Try.prog 39 #[.int .i64 z] w fun r w' => r = .returned (.int .i64 (if Sized z then z - 32 else 0)) ∧ w' = w := by
  by_cases h : Sized z
  · rw [if_pos h]
    rcases h with rfl | rfl | rfl | rfl
    all_goals
      go_enter Try.func39, Try.ntmps39
      go_wp2
      go_ret
      exact ⟨rfl, rfl⟩
  · rw [if_neg h]
    have h1 : (z == 512) = false := by rw [beq_eq_false_iff_ne]; intro e; exact h (.inl e)
    have h2 : (z == 1024) = false := by rw [beq_eq_false_iff_ne]; intro e; exact h (.inr (.inl e))
    have h3 : (z == 2048) = false := by rw [beq_eq_false_iff_ne]; intro e; exact h (.inr (.inr (.inl e)))
    have h4 : (z == 4096) = false := by rw [beq_eq_false_iff_ne]; intro e; exact h (.inr (.inr (.inr e)))
    clear h
    go_enter Try.func39, Try.ntmps39
    go_wp2
    go_ret
    exact ⟨rfl, rfl⟩

set_option maxHeartbeats 800000 in
set_option maxRecDepth 100000 in
theorem fit_any {w : World} {v : Value} {ps : List Int} {L : List Kc} (h : KidsAt w.heap.size w v ps L) :
    Calls Try.prog 43 #[v] w fun r w' => r = .returned (.bool (kd ps L).fit) ∧ Below w.heap.size w w' := by
  obtain ⟨vp, vk, rfl, h1, h2⟩ := h.is
  obtain ⟨a1, c1, rfl⟩ := h1.form
  obtain ⟨a2, c2, rfl⟩ := h2.form
  have hs1 := h1.short
  have hs2 := h2.short
  have HB0 : Hid (Below w.heap.size w (w.alloc (.cells #[.slice a1 ps.length c1, .slice a2 L.length c2] 26))) := below_new _ _
  clear h h1 h2
  by_cases hp : 0 < ps.length
  · have hpz : (0 : Int) < (ps.length : Int) := by omega
    by_cases he : L.length + 1 = ps.length
    · have HF : Hid ((kd ps L).fit = true) := fit_iff.2 ⟨hp, by rw [show (kd ps L).ks.length = L.length from keysOf_length L]; exact he⟩
      have hez : ((L.length : Int) == (ps.length : Int) - 1) = true := by simp; omega
      clear he
      go_enter Try.func43, Try.ntmps43
      go_wp2
      go_ret
      exact ⟨ret_bool (by rw [HF.out]), HB0.out⟩
    · have HF : Hid ((kd ps L).fit = false) := by
        rw [Hid, ← Bool.not_eq_true, fit_iff]
        rintro ⟨_, h⟩
        rw [show (kd ps L).ks.length = L.length from keysOf_length L] at h
        exact he h
      have hez : ((L.length : Int) == (ps.length : Int) - 1) = false := by rw [beq_eq_false_iff_ne]; omega
      clear he
      go_enter Try.func43, Try.ntmps43
      go_wp2
      go_ret
      exact ⟨ret_bool (by rw [HF.out]), HB0.out⟩
  · have hpz : ¬ (0 : Int) < (ps.length : Int) := by omega
    have HF : Hid ((kd ps L).fit = false) := by
      rw [Hid, ← Bool.not_eq_true, fit_iff]
      rintro ⟨h, _⟩
      exact hp h
    go_enter Try.func43, Try.ntmps43
    go_wp2
    go_ret
    exact ⟨ret_bool (by rw [HF.out]), HB0.out⟩

set_option maxHeartbeats 800000 in
set_option maxRecDepth 100000 in
theorem bytes_any {w : World} {v : Value} {ps : List Int} {L : List Kc} (h : KidsAt w.heap.size w v ps L) :
    Calls Try.prog 28 #[v] w fun r w' => r = .returned (.int .i64 (wrap64 (bytesK (kd ps L)))) ∧ Below w.heap.size w w' := by
  obtain ⟨vp, vk, rfl, h1, h2⟩ := h.is
  obtain ⟨a1, c1, rfl⟩ := h1.form
  obtain ⟨a2, c2, rfl⟩ := h2.form
  have hs1 := h1.short
  have hs2 := h2.short
  obtain ⟨W, hW⟩ : ∃ W, W = w.alloc (.cells #[.slice a1 ps.length c1, .slice a2 L.length c2] 26) := ⟨_, rfl⟩
  have HBW : Hid (Below w.heap.size w W) := by rw [hW]; exact below_new _ _
  have HK : Hid (KeysAt W.heap.size W (.slice a2 L.length c2) L) := h2.here HBW.out
  clear h h1 h2
  go_enter Try.func28, Try.ntmps28
  go_wp2
  rw [← hW]
  clear hW
  go_loopw [3, 14] (fun n i wx => ∃ (k : Nat) (N : Int), k ≤ L.length ∧ i = .int .i64 k ∧ n = .int .i64 N ∧ N = wrap64 (2 + 4 * ps.length + bytesL ((keysOf L).take k) : Nat) ∧ wx = W) (fun _ i _ => L.length - (intOf i).toNat)
  case atStart => exact ⟨0, _, by omega, rfl, rfl, by rw [wrap_of _ (by simp [bytesL]; omega) (by simp [bytesL]; omega)]; simp [bytesL], rfl⟩
  case round =>
    obtain ⟨k, N, hk, rfl, rfl, hN, rfl⟩ := hrel
    have HN : Hid (N = wrap64 (2 + 4 * ps.length + bytesL ((keysOf L).take k) : Nat)) := hN
    clear hN
    by_cases hlt : k < L.length
    · have hz : (k : Int) < (L.length : Int) := by omega
      obtain ⟨e, he⟩ : ∃ e, L[k]? = some e := ⟨_, List.getElem?_eq_getElem hlt⟩
      obtain ⟨g, off, _, e1, hcell⟩ := HK.out.cell k e he
      cases e1
      have hok := HK.out.ok e (List.mem_of_getElem? he)
      have hsh := hok.short
      obtain ⟨a, c, e2⟩ := hok.form
      rw [e2] at hcell
      have HS : Hid (wrap64 (2 + 4 * ps.length + bytesL ((keysOf L).take (k + 1)) : Nat) = wrap64 (N + (2 + (e.k.length : Int)))) := by
        rw [Hid, HN.out, wrap_add, bytesL_take _ _ _ (keysOf_get he)]
        congr 1
        omega
      clear he hok e2
      go_wp2
      exact ⟨⟨k + 1, _, by omega, by go_num, rfl, HS.out.symm, by first | trivial | rfl⟩, by simp [intOf]; omega⟩
    · have hz : ¬ (k : Int) < (L.length : Int) := by omega
      have HE : Hid (N = wrap64 (bytesK (kd ps L))) := by
        rw [Hid, HN.out, List.take_of_length_le (by rw [keysOf_length]; omega)]
        rfl
      go_wp2
      go_ret
      exact ⟨by rw [HE.out]; rfl, HBW.out⟩

set_option maxHeartbeats 800000 in
set_option maxRecDepth 100000 in
theorem child_any {w : World} {v u : Value} {ps : List Int} {L : List Kc} {key : Key} (h : KidsAt w.heap.size w v ps L) (hu : KeyAt w u key) :
    Calls Try.prog 30 #[v, u] w fun r w' => r = .returned (.int .i64 (childK (keysOf L) key : Nat)) ∧ Below w.heap.size w w' := by
  obtain ⟨vp, vk, rfl, h1, h2⟩ := h.is
  obtain ⟨a1, c1, rfl⟩ := h1.form
  obtain ⟨a2, c2, rfl⟩ := h2.form
  have hs1 := h1.short
  have hs2 := h2.short
  obtain ⟨W, hW⟩ : ∃ W, W = w.alloc (.cells #[.slice a1 ps.length c1, .slice a2 L.length c2] 26) := ⟨_, rfl⟩
  have HBW : Hid (Below w.heap.size w W) := by rw [hW]; exact below_new _ _
  have HK : Hid (KeysAt W.heap.size W (.slice a2 L.length c2) L) := h2.here HBW.out
  have HU : Hid (KeyAt W u key) := hu.here HBW.out
  have HX : Hid (KBox W w.heap.size (.slice a1 ps.length c1) (.slice a2 L.length c2)) := by rw [hW]; exact KBox.new _ _ _
  clear h h1 h2 hu
  go_enter Try.func30, Try.ntmps30
  go_wp2
  rw [← hW]
  clear hW
  go_loopw [10] (fun i wx => ∃ (k : Nat), k ≤ L.length ∧ i = .int .i64 k ∧ (∀ (i : Nat) x, i < k → (keysOf L)[i]? = some x → x ≤ key) ∧ ∃ q, wx = W.drewN q) (fun i _ => L.length - (intOf i).toNat)
  case atStart => exact ⟨0, by omega, rfl, fun i x hi => absurd hi (by omega), 0, rfl⟩
  case round =>
    obtain ⟨k, hk, rfl, ha, q, rfl⟩ := hrel
    have HA : Hid (∀ (i : Nat) x, i < k → (keysOf L)[i]? = some x → x ≤ key) := ha
    clear ha
    by_cases hlt : k < L.length
    · have hz : (k : Int) < (L.length : Int) := by omega
      obtain ⟨e, he⟩ : ∃ e, L[k]? = some e := ⟨_, List.getElem?_eq_getElem hlt⟩
      obtain ⟨g, off, _, e1, hcell⟩ := HK.out.cell k e he
      cases e1
      have HOK : Hid (KeyIn W.heap.size W e.v e.k) := HK.out.ok e (List.mem_of_getElem? he)
      have HE : Hid ((keysOf L)[k]? = some e.k) := keysOf_get he
      clear he
      by_cases hc : key < e.k
      · have hcz : 0 < cmpK e.k key := cmpK_gt.2 hc
        have HR : Hid (childK (keysOf L) key = k) := childK_is (by rw [keysOf_length]; omega) HA.out (fun x hx => by rw [HE.out] at hx; cases hx; exact hc)
        go_wp2_with (go_at_call 53; refine (compare_key ((HOK.out.at (Nat.le_refl _)).draws q) (HU.out.draws q)).mono ?_; rintro r w' ⟨rfl, q', rfl⟩)
        go_ret
        exact ⟨by rw [HR.out]; rfl, below_draws HBW.out _⟩
      · have hcz : ¬ 0 < cmpK e.k key := fun h => hc (cmpK_gt.1 h)
        have HS : Hid (∀ (i : Nat) x, i < k + 1 → (keysOf L)[i]? = some x → x ≤ key) := fun i x hi hx => by
          rcases Nat.lt_or_ge i k with h | h
          · exact HA.out i x h hx
          · have : i = k := by omega
            subst this
            rw [HE.out] at hx
            cases hx
            grind
        go_wp2_with (go_at_call 53; refine (compare_key ((HOK.out.at (Nat.le_refl _)).draws q) (HU.out.draws q)).mono ?_; rintro r w' ⟨rfl, q', rfl⟩)
        exact ⟨⟨k + 1, by omega, by go_num, HS.out, q + q', rfl⟩, by simp [intOf]; omega⟩
    · have hz : ¬ (k : Int) < (L.length : Int) := by omega
      obtain ⟨x0, x1⟩ := HX.out.cells
      have HR : Hid (childK (keysOf L) key = L.length) := by
        have : k = L.length := by omega
        subst this
        exact childK_is (by rw [keysOf_length]; omega) HA.out (fun x hx => by rw [List.getElem?_eq_none (by rw [keysOf_length]; omega)] at hx; cases hx)
      go_wp2
      go_ret
      exact ⟨by rw [HR.out]; rfl, below_draws HBW.out _⟩

theorem rise_step {ks : List Key} {k : Nat} {x y : Key} (h : (ks.take (k + 1)).Pairwise (· < ·)) (hx : ks[k]? = some x) (hy : ks[k + 1]? = some y) (hxy : x < y) : (ks.take (k + 1 + 1)).Pairwise (· < ·) := by
  rw [List.take_add_one, hy]
  rw [List.pairwise_append]
  refine ⟨h, by simp, fun a ha b hb => ?_⟩
  simp at hb
  subst hb
  obtain ⟨i, hi⟩ := List.getElem?_of_mem ha
  rw [List.getElem?_take] at hi
  split at hi
  · rename_i h1
    rcases Nat.lt_or_ge i k with h2 | h2
    · have h3 : (ks.take (k + 1))[i]? = some a := by rw [List.getElem?_take, if_pos h1]; exact hi
      have h4 : (ks.take (k + 1))[k]? = some x := by rw [List.getElem?_take, if_pos (by omega)]; exact hx
      have := rise_lt h h2 h3 h4
      grind
    · have : i = k := by omega
      subst this
      rw [hx] at hi
      cases hi
      exact hxy
  · cases hi
set_option maxHeartbeats 800000 in
set_option maxRecDepth 100000 in
theorem rise_any {w : World} {v : Value} {L : List Kc} (h : KeysAt w.heap.size w v L) :
    Calls Try.prog 52 #[v] w fun r w' => r = .returned (.bool (riseK (keysOf L))) ∧ Below w.heap.size w w' := by
  obtain ⟨a, c, rfl⟩ := h.form
  have hs := h.short
  have HK : Hid (KeysAt w.heap.size w (.slice a L.length c) L) := h
  clear h
  go_enter Try.func52, Try.ntmps52
  go_wp2
  go_loopw [3] (fun i wx => ∃ (k : Nat), i = .int .i64 k ∧ 1 ≤ k ∧ k ≤ L.length + 1 ∧ ((keysOf L).take k).Pairwise (· < ·) ∧ Below w.heap.size w wx) (fun i _ => L.length - (intOf i).toNat)
  case atStart =>
    refine ⟨1, rfl, by omega, by omega, ?_, Below.refl _ _⟩
    cases keysOf L <;> simp
  case round =>
    obtain ⟨k, rfl, hk1, hk2, hp, hbe⟩ := hrel
    have HBE : Hid (Below w.heap.size w wr) := hbe
    have hK := HK.out.here hbe
    have HP : Hid (((keysOf L).take k).Pairwise (· < ·)) := hp
    clear hp hbe
    by_cases hlt : k < L.length
    · obtain ⟨j, hj⟩ : ∃ j : Nat, k = j + 1 := ⟨k - 1, by omega⟩
      have hz : (k : Int) < (L.length : Int) := by omega
      have hn1 : (k : Int) - 1 = (j : Int) := by omega
      have hn2 : (j : Int) < (L.length : Int) := by omega
      have hwj : IntKind.i64.wrap (j : Int) = (j : Int) := wrapk_of _ (by omega) (by omega)
      obtain ⟨e, he⟩ : ∃ e, L[j]? = some e := ⟨L[j]'(by omega), List.getElem?_eq_getElem _⟩
      obtain ⟨e', he'⟩ : ∃ e, L[k]? = some e := ⟨L[k]'(by omega), List.getElem?_eq_getElem _⟩
      obtain ⟨g, off, _, e1, hcell⟩ := hK.cell j e he
      cases e1
      obtain ⟨_, _, _, e1, hcell'⟩ := hK.cell k e' he'
      cases e1
      have HO : Hid (KeyAt wr e.v e.k) := (hK.ok e (List.mem_of_getElem? he)).at (Nat.le_refl _)
      have HO' : Hid (KeyAt wr e'.v e'.k) := (hK.ok e' (List.mem_of_getElem? he')).at (Nat.le_refl _)
      have HE : Hid ((keysOf L)[j]? = some e.k) := keysOf_get he
      have HE' : Hid ((keysOf L)[k]? = some e'.k) := keysOf_get he'
      have HJ : Hid (k = j + 1) := hj
      clear he he' hj hK
      by_cases hc : e.k < e'.k
      · have hcz : ¬ 0 ≤ cmpK e.k e'.k := fun h => by have := cmpK_ge.1 h; grind
        have HN : Hid (((keysOf L).take (k + 1)).Pairwise (· < ·)) := by
          have h1 := HP.out
          have h2 := HE'.out
          rw [HJ.out] at h1 h2
          rw [Hid, HJ.out]
          exact rise_step h1 HE.out h2 hc
        clear hc
        go_wp2_with fail
        go_quiet (first
          | (go_at_call 53; exact Calls.quiet_of (compare_key (HO.out.draws _) (HO'.out.draws _))))
        go_wp2
        exact ⟨⟨k + 1, by go_num, by omega, by omega, HN.out, below_draws HBE.out _⟩, by simp [intOf]; omega⟩
      · have hcz : 0 ≤ cmpK e.k e'.k := cmpK_ge.2 (by grind)
        have HN : Hid (riseK (keysOf L) = false) := by
          rw [Hid, ← Bool.not_eq_true, rise_iff]
          intro h
          have h2 := HE'.out
          rw [HJ.out] at h2
          exact hc (rise_lt h (Nat.lt_succ_self j) HE.out h2)
        clear hc
        go_wp2_with fail
        go_quiet (first
          | (go_at_call 53; exact Calls.quiet_of (compare_key (HO.out.draws _) (HO'.out.draws _))))
        go_wp2
        go_ret
        exact ⟨ret_bool (by rw [HN.out]), below_draws HBE.out _⟩
    · have hz : ¬ (k : Int) < (L.length : Int) := by omega
      have HN : Hid (riseK (keysOf L) = true) := by
        rw [Hid, rise_iff]
        have := HP.out
        rw [List.take_of_length_le (by rw [keysOf_length]; omega)] at this
        exact this
      go_wp2
      go_ret
      exact ⟨ret_bool (by rw [HN.out]), HBE.out⟩
end Go.Proofs.Ytaehchijeinloaa
