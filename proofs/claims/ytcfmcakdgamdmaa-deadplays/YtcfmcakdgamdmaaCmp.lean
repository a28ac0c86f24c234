/- compare, common, needs: of two lives. -/
import Derived.Test.YtcfmcakdgamdmaaMem
namespace Go.Proofs.Ytcfmcakdgamdmaa
open Go.RowKit

theorem isNaNI_any (w : World) (n : Int) : Calls Try.prog 63 #[.int .i64 n] w fun e w' => e = .returned (.bool false) ∧ w' = w := by
  go_enter Try.func63, Try.ntmps63
  go_wp2
  go_ret
  exact ⟨rfl, rfl⟩
theorem isNaNU_any (w : World) (n : Int) : Calls Try.prog 64 #[.int .u64 n] w fun e w' => e = .returned (.bool false) ∧ w' = w := by
  go_enter Try.func64, Try.ntmps64
  go_wp2
  go_ret
  exact ⟨rfl, rfl⟩
theorem compareI_any (w : World) (a x : Int) : Calls Try.prog 47 #[.int .i64 a, .int .i64 x] w fun e w' => e = .returned (.int .i64 (cmpI a x)) ∧ w' = w := by
  by_cases h1 : a < x
  · have HE : Hid (cmpI a x = -1) := by show _ = _; unfold cmpI; rw [if_pos h1]
    go_enter Try.func47, Try.ntmps47
    go_wp2_with (go_at_call 63; refine (isNaNI_any _ _).mono ?_; rintro e w' ⟨rfl, rfl⟩)
    go_ret
    exact ⟨by rw [HE.out]; rfl, rfl⟩
  · by_cases h2 : x < a
    · have HE : Hid (cmpI a x = 1) := by show _ = _; unfold cmpI; rw [if_neg h1, if_pos h2]
      go_enter Try.func47, Try.ntmps47
      go_wp2_with (go_at_call 63; refine (isNaNI_any _ _).mono ?_; rintro e w' ⟨rfl, rfl⟩)
      go_ret
      exact ⟨by rw [HE.out]; rfl, rfl⟩
    · have HE : Hid (cmpI a x = 0) := by show _ = _; unfold cmpI; rw [if_neg h1, if_neg h2]
      go_enter Try.func47, Try.ntmps47
      go_wp2_with (go_at_call 63; refine (isNaNI_any _ _).mono ?_; rintro e w' ⟨rfl, rfl⟩)
      go_ret
      exact ⟨by rw [HE.out]; rfl, rfl⟩
theorem compareU_any (w : World) (a x : Int) : Calls Try.prog 48 #[.int .u64 a, .int .u64 x] w fun e w' => e = .returned (.int .i64 (cmpI a x)) ∧ w' = w := by
  by_cases h1 : a < x
  · have HE : Hid (cmpI a x = -1) := by show _ = _; unfold cmpI; rw [if_pos h1]
    go_enter Try.func48, Try.ntmps48
    go_wp2_with (go_at_call 64; refine (isNaNU_any _ _).mono ?_; rintro e w' ⟨rfl, rfl⟩)
    go_ret
    exact ⟨by rw [HE.out]; rfl, rfl⟩
  · by_cases h2 : x < a
    · have HE : Hid (cmpI a x = 1) := by show _ = _; unfold cmpI; rw [if_neg h1, if_pos h2]
      go_enter Try.func48, Try.ntmps48
      go_wp2_with (go_at_call 64; refine (isNaNU_any _ _).mono ?_; rintro e w' ⟨rfl, rfl⟩)
      go_ret
      exact ⟨by rw [HE.out]; rfl, rfl⟩
    · have HE : Hid (cmpI a x = 0) := by show _ = _; unfold cmpI; rw [if_neg h1, if_neg h2]
      go_enter Try.func48, Try.ntmps48
      go_wp2_with (go_at_call 64; refine (isNaNU_any _ _).mono ?_; rintro e w' ⟨rfl, rfl⟩)
      go_ret
      exact ⟨by rw [HE.out]; rfl, rfl⟩
def orI (a x : Int) : Int := if a ≠ 0 then a else x
set_option maxHeartbeats 800000 in
theorem or_any (w : World) (g : Nat) (c : Nat) (a x : Int) (h0 : w.cell? ⟨g, 0, none⟩ = some (.int .i64 a)) (h1 : w.cell? ⟨g, 1, none⟩ = some (.int .i64 x)) :
    Calls Try.prog 46 #[.slice (some ⟨g, 0, none⟩) 2 c] w fun e w' => e = .returned (.int .i64 (orI a x)) ∧ w' = w := by
  unfold orI
  by_cases ha : a = 0
  · subst ha
    by_cases hx : x = 0
    · subst hx
      go_enter Try.func46, Try.ntmps46
      go_wp2
      go_loop [8] (fun i => ∃ k : Nat, k ≤ 2 ∧ i = .int .i64 k) (fun i => 2 - (intOf i).toNat)
      case atStart => exact ⟨0, by omega, rfl⟩
      case round =>
        obtain ⟨k, hk, rfl⟩ := hrel
        rcases (show k = 0 ∨ k = 1 ∨ k = 2 by omega) with rfl | rfl | rfl
        · go_wp2
          exact ⟨⟨1, by omega, rfl⟩, by simp [intOf]⟩
        · go_wp2
          exact ⟨⟨2, by omega, rfl⟩, by simp [intOf]⟩
        · go_wp2
          go_ret
          exact ⟨rfl, rfl⟩
    · have hxz : (x != 0) = true := by simpa using hx
      go_enter Try.func46, Try.ntmps46
      go_wp2
      go_loop [8] (fun i => ∃ k : Nat, k ≤ 1 ∧ i = .int .i64 k) (fun i => 2 - (intOf i).toNat)
      case atStart => exact ⟨0, by omega, rfl⟩
      case round =>
        obtain ⟨k, hk, rfl⟩ := hrel
        rcases (show k = 0 ∨ k = 1 by omega) with rfl | rfl
        · go_wp2
          exact ⟨⟨1, by omega, rfl⟩, by simp [intOf]⟩
        · go_wp2
          go_ret
          exact ⟨rfl, rfl⟩
  · have hxz : (a != 0) = true := by simpa using ha
    have HE : Hid ((if a ≠ 0 then a else x) = a) := by show _ = _; rw [if_pos ha]
    go_enter Try.func46, Try.ntmps46
    go_wp2
    go_loop [8] (fun i => i = .int .i64 0) (fun i => 2 - (intOf i).toNat)
    case atStart => exact rfl
    case round =>
      obtain rfl := hrel
      go_wp2
      go_ret
      exact ⟨by first | rfl | (rw [HE.out]; rfl), rfl⟩
/-- Two lives in blocks of their own. -/
theorem two_cells (w : World) (a x : Lf) {W : World} (hW : W = (w.alloc (.cells #[.int .i64 a.p, .int .u64 a.b, .int .u64 a.d] 34)).alloc (.cells #[.int .i64 x.p, .int .u64 x.b, .int .u64 x.d] 34)) :
    W.heap[w.heap.size]? = some (.cells #[.int .i64 a.p, .int .u64 a.b, .int .u64 a.d] 34 (0, 0)) ∧ W.heap[w.heap.size + 1]? = some (.cells #[.int .i64 x.p, .int .u64 x.b, .int .u64 x.d] 34 (0, 0)) ∧ Below w.heap.size w W := by
  rw [hW]
  refine ⟨?_, ?_, ((Below.refl _ _).alloc (Nat.le_refl _) _).alloc (by simp) _⟩
  · exact (((Below.refl _ _).alloc (by simp) _).block w.heap.size (Nat.lt_succ_self _)).trans (heap_alloc_last w _)
  · have := heap_alloc_last (w.alloc (.cells #[.int .i64 a.p, .int .u64 a.b, .int .u64 a.d] 34)) (.cells #[.int .i64 x.p, .int .u64 x.b, .int .u64 x.d] 34)
    simpa using this
set_option maxHeartbeats 1600000 in
theorem compare_any (w : World) (a x : Lf) : Calls Try.prog 37 #[aggL a, aggL x] w fun e w' => e = .returned (.int .i64 (cmpL a x)) ∧ Below w.heap.size w w' := by
  unfold aggL
  have HE : Hid (cmpL a x = if cmpI a.p x.p ≠ 0 then cmpI a.p x.p else cmpI a.b x.b) := rfl
  obtain ⟨W, hW⟩ : ∃ W, W = (w.alloc (.cells #[.int .i64 a.p, .int .u64 a.b, .int .u64 a.d] 34)).alloc (.cells #[.int .i64 x.p, .int .u64 x.b, .int .u64 x.d] 34) := ⟨_, rfl⟩
  obtain ⟨h1, h2, hb⟩ := two_cells w a x hW
  have c0 : W.cell? ⟨w.heap.size, 0, none⟩ = some (.int .i64 a.p) := row_cell h1 0
  have c1 : W.cell? ⟨w.heap.size, 1, none⟩ = some (.int .u64 a.b) := row_cell h1 1
  have d0 : W.cell? ⟨w.heap.size + 1, 0, none⟩ = some (.int .i64 x.p) := row_cell h2 0
  have d1 : W.cell? ⟨w.heap.size + 1, 1, none⟩ = some (.int .u64 x.b) := row_cell h2 1
  have HB : Hid _ := hb
  generalize hp : cmpI a.p x.p = cp at HE
  generalize hq : cmpI a.b x.b = cq at HE
  have HP : Hid (∀ w, Calls Try.prog 47 #[.int .i64 a.p, .int .i64 x.p] w fun e w' => e = .returned (.int .i64 cp) ∧ w' = w) := fun w => by rw [← hp]; exact compareI_any w _ _
  have HQ : Hid (∀ w, Calls Try.prog 48 #[.int .u64 a.b, .int .u64 x.b] w fun e w' => e = .returned (.int .i64 cq) ∧ w' = w) := fun w => by rw [← hq]; exact compareU_any w _ _
  clear h1 h2 hb hp hq
  go_enter Try.func37, Try.ntmps37
  go_wp2_with fail
  rw [← hW]
  clear hW
  go_region_held_law (fun W' => W'.cell? ⟨w.heap.size, 0, none⟩ = some (.int .i64 a.p) ∧ W'.cell? ⟨w.heap.size, 1, none⟩ = some (.int .u64 a.b) ∧ W'.cell? ⟨w.heap.size + 1, 0, none⟩ = some (.int .i64 x.p) ∧ W'.cell? ⟨w.heap.size + 1, 1, none⟩ = some (.int .u64 x.b)) (first | go_keep | (refine ⟨?_, ?_, ?_, ?_⟩ <;> assumption))
    (first
      | (go_at_call 47; refine (HP.out _).mono ?_; rintro e w' ⟨rfl, hw'⟩; obtain rfl := hw'.symm)
      | (go_at_call 48; refine (HQ.out _).mono ?_; rintro e w' ⟨rfl, hw'⟩; obtain rfl := hw'.symm)
      | (go_at_call 46; refine (or_any _ _ _ cp cq (by exact row_cell (heap_alloc_last W _) 0) (by exact row_cell (heap_alloc_last W _) 1)).mono ?_; rintro e w' ⟨rfl, hw'⟩; obtain rfl := hw'.symm))
  all_goals
    go_wp2_with fail
    go_ret
    exact ⟨by rw [HE.out]; rfl, (HB.out.alloc (Below.size HB.out) _).drew⟩
theorem needs_any (w : World) (g : Int) (x : Lf) : Calls Try.prog 31 #[.int .u64 g, aggL x] w fun e w' => e = .returned (.bool (needsL g x)) ∧ Below w.heap.size w w' := by
  unfold aggL needsL
  by_cases h : x.b ≤ g
  · have e1 : decide (x.b ≤ g) = true := by simpa using h
    rw [e1, Bool.true_and]
    clear e1
    go_enter Try.func31, Try.ntmps31
    go_wp2
    go_ret
    exact ⟨rfl, below_new _ _⟩
  · have e1 : decide (x.b ≤ g) = false := by simpa using h
    rw [e1, Bool.false_and]
    clear e1
    go_enter Try.func31, Try.ntmps31
    go_wp2
    go_ret
    exact ⟨rfl, below_new _ _⟩
end Go.Proofs.Ytcfmcakdgamdmaa
