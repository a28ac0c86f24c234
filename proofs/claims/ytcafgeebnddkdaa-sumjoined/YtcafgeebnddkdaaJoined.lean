/- The law SumJoined's walk. -/
import Derived.Test.YtcafgeebnddkdaaJoin
namespace Go.Proofs.Ytcafgeebnddkdaa
open Go.RowKit

theorem neg_wrap (c : Int) (h0 : c < 0) (h1 : -9223372036854775808 ≤ c) : wrap64 (-(wrap64 (c + 1))) = -(c + 1) := by
  unfold wrap64
  omega
theorem wf_bounds {c : Int} (h : (Lit.int .i64 c).wf = true) : -9223372036854775808 ≤ c ∧ c ≤ 9223372036854775807 := by
  simpa [Lit.wf, IntKind.min, IntKind.max, IntKind.bits, IntKind.signed] using h

theorem joined_ints (a b c : BitVec 64) (n m : Int) (hn : 0 ≤ n) (hm : 0 ≤ m) : joined (joined a b n.toNat) c m.toNat = joined a (joined b c m.toNat) (n + m).toNat := by
  rw [joined_joined]
  congr 1
  omega

set_option maxHeartbeats 800000 in
set_option maxRecDepth 100000 in
theorem joined_walk (a b c : BitVec 64) (N M : Int) (w : World) (hN : (Lit.int .i64 N).wf = true) (hM : (Lit.int .i64 M).wf = true) :
    Calls Try.prog 6 #[.agg #[.int .u64 (a.toNat : Int), .int .u64 (b.toNat : Int), .int .u64 (c.toNat : Int), .int .i64 N, .int .i64 M]] w fun e w' => e = .returned (.bool true) ∧ Below w.heap.size w w' := by
  obtain ⟨hN1, hN2⟩ := wf_bounds hN
  obtain ⟨hM1, hM2⟩ := wf_bounds hM
  clear hN hM
  go_enter Try.func6, Try.ntmps6
  go_wp2_with fail
  refine (shown_any _).mono ?_
  rintro _ w1 ⟨rfl, hb1⟩
  have hlast := heap_alloc_last w (.cells #[.int .u64 (a.toNat : Int), .int .u64 (b.toNat : Int), .int .u64 (c.toNat : Int), .int .i64 N, .int .i64 M] 33)
  have hrow : w1.heap[w.heap.size]? = some (.cells #[.int .u64 (a.toNat : Int), .int .u64 (b.toNat : Int), .int .u64 (c.toNat : Int), .int .i64 N, .int .i64 M] 33 (0, 0)) := by rw [hb1.block w.heap.size (by simp)]; exact hlast
  have c0 : w1.cell? ⟨w.heap.size, 0, none⟩ = some (.int .u64 (a.toNat : Int)) := row_cell hrow 0
  have c1 : w1.cell? ⟨w.heap.size, 1, none⟩ = some (.int .u64 (b.toNat : Int)) := row_cell hrow 1
  have c2 : w1.cell? ⟨w.heap.size, 2, none⟩ = some (.int .u64 (c.toNat : Int)) := row_cell hrow 2
  have c3 : w1.cell? ⟨w.heap.size, 3, none⟩ = some (.int .i64 N) := row_cell hrow 3
  have c4 : w1.cell? ⟨w.heap.size, 4, none⟩ = some (.int .i64 M) := row_cell hrow 4
  have HB : Hid (Below w.heap.size w w1) := ((Below.refl _ _).alloc (Nat.le_refl _) _).trans (hb1.mono (by simp))
  clear hb1 hlast hrow
  have hqN : ∀ x : Int, x < 0 → ∃ k : Int, 0 ≤ k ∧ k ≤ 4611686018427387903 ∧ (x + 1).tdiv 2 = -k ∨ x < -9223372036854775808 := fun x hx => by
    refine ⟨(-(x + 1)) / 2, ?_⟩
    by_cases h : x < -9223372036854775808
    · exact .inr h
    · refine .inl ⟨by omega, by omega, ?_⟩
      have e : x + 1 = -(-(x + 1)) := by omega
      rw [e, Int.neg_tdiv, Int.tdiv_eq_ediv_of_nonneg (by omega)]
      omega
  have hqP : ∀ x : Int, 0 ≤ x → ∃ k : Int, 0 ≤ k ∧ k ≤ 4611686018427387903 ∧ x.tdiv 2 = k ∨ 9223372036854775807 < x := fun x hx => by
    refine ⟨x / 2, ?_⟩
    by_cases h : 9223372036854775807 < x
    · exact .inr h
    · exact .inl ⟨by omega, by omega, Int.tdiv_eq_ediv_of_nonneg hx⟩
  by_cases hNn : N < 0
  · obtain ⟨kn, hkn⟩ := hqN N hNn
    rcases hkn with ⟨kn1, kn2, kn3⟩ | h
    rotate_left
    · omega
    by_cases hMn : M < 0
    · obtain ⟨km, hkm⟩ := hqN M hMn
      rcases hkm with ⟨km1, km2, km3⟩ | h
      rotate_left
      · omega
      clear hqN hqP
      go_wp2_with fail
      all_goals
        refine (join_any _ _ _ _ (by omega)).mono ?_
        rintro _ _ ⟨rfl, rfl⟩
        go_wp2_with fail
        refine (join_any _ _ _ _ (by omega)).mono ?_
        rintro _ _ ⟨rfl, rfl⟩
        go_wp2_with fail
        refine (join_any _ _ _ _ (by omega)).mono ?_
        rintro _ _ ⟨rfl, rfl⟩
        go_wp2_with fail
        refine (join_any _ _ _ _ (by omega)).mono ?_
        rintro _ _ ⟨rfl, rfl⟩
        rw [← joined_ints _ _ _ _ _ (by omega) (by omega)]
        go_wp2_with fail
        refine (join_any _ 0#64 0 _ (by omega)).mono ?_
        rintro _ _ ⟨rfl, rfl⟩
        rw [show joined _ 0#64 (0 : Int).toNat = _ from joined_none _]
        go_wp2_with fail
        refine (join_any 0#64 _ _ _ (by omega)).mono ?_
        rintro _ _ ⟨rfl, rfl⟩
        rw [joined_zero]
        go_wp2
        go_ret
        exact ⟨rfl, HB.out⟩
    · obtain ⟨km, hkm⟩ := hqP M (by omega)
      rcases hkm with ⟨km1, km2, km3⟩ | h
      rotate_left
      · omega
      clear hqN hqP
      go_wp2_with fail
      all_goals
        refine (join_any _ _ _ _ (by omega)).mono ?_
        rintro _ _ ⟨rfl, rfl⟩
        go_wp2_with fail
        refine (join_any _ _ _ _ (by omega)).mono ?_
        rintro _ _ ⟨rfl, rfl⟩
        go_wp2_with fail
        refine (join_any _ _ _ _ (by omega)).mono ?_
        rintro _ _ ⟨rfl, rfl⟩
        go_wp2_with fail
        refine (join_any _ _ _ _ (by omega)).mono ?_
        rintro _ _ ⟨rfl, rfl⟩
        rw [← joined_ints _ _ _ _ _ (by omega) (by omega)]
        go_wp2_with fail
        refine (join_any _ 0#64 0 _ (by omega)).mono ?_
        rintro _ _ ⟨rfl, rfl⟩
        rw [show joined _ 0#64 (0 : Int).toNat = _ from joined_none _]
        go_wp2_with fail
        refine (join_any 0#64 _ _ _ (by omega)).mono ?_
        rintro _ _ ⟨rfl, rfl⟩
        rw [joined_zero]
        go_wp2
        go_ret
        exact ⟨rfl, HB.out⟩
  · obtain ⟨kn, hkn⟩ := hqP N (by omega)
    rcases hkn with ⟨kn1, kn2, kn3⟩ | h
    rotate_left
    · omega
    by_cases hMn : M < 0
    · obtain ⟨km, hkm⟩ := hqN M hMn
      rcases hkm with ⟨km1, km2, km3⟩ | h
      rotate_left
      · omega
      clear hqN hqP
      go_wp2_with fail
      all_goals
        refine (join_any _ _ _ _ (by omega)).mono ?_
        rintro _ _ ⟨rfl, rfl⟩
        go_wp2_with fail
        refine (join_any _ _ _ _ (by omega)).mono ?_
        rintro _ _ ⟨rfl, rfl⟩
        go_wp2_with fail
        refine (join_any _ _ _ _ (by omega)).mono ?_
        rintro _ _ ⟨rfl, rfl⟩
        go_wp2_with fail
        refine (join_any _ _ _ _ (by omega)).mono ?_
        rintro _ _ ⟨rfl, rfl⟩
        rw [← joined_ints _ _ _ _ _ (by omega) (by omega)]
        go_wp2_with fail
        refine (join_any _ 0#64 0 _ (by omega)).mono ?_
        rintro _ _ ⟨rfl, rfl⟩
        rw [show joined _ 0#64 (0 : Int).toNat = _ from joined_none _]
        go_wp2_with fail
        refine (join_any 0#64 _ _ _ (by omega)).mono ?_
        rintro _ _ ⟨rfl, rfl⟩
        rw [joined_zero]
        go_wp2
        go_ret
        exact ⟨rfl, HB.out⟩
    · obtain ⟨km, hkm⟩ := hqP M (by omega)
      rcases hkm with ⟨km1, km2, km3⟩ | h
      rotate_left
      · omega
      clear hqN hqP
      go_wp2_with fail
      all_goals
        refine (join_any _ _ _ _ (by omega)).mono ?_
        rintro _ _ ⟨rfl, rfl⟩
        go_wp2_with fail
        refine (join_any _ _ _ _ (by omega)).mono ?_
        rintro _ _ ⟨rfl, rfl⟩
        go_wp2_with fail
        refine (join_any _ _ _ _ (by omega)).mono ?_
        rintro _ _ ⟨rfl, rfl⟩
        go_wp2_with fail
        refine (join_any _ _ _ _ (by omega)).mono ?_
        rintro _ _ ⟨rfl, rfl⟩
        rw [← joined_ints _ _ _ _ _ (by omega) (by omega)]
        go_wp2_with fail
        refine (join_any _ 0#64 0 _ (by omega)).mono ?_
        rintro _ _ ⟨rfl, rfl⟩
        rw [show joined _ 0#64 (0 : Int).toNat = _ from joined_none _]
        go_wp2_with fail
        refine (join_any 0#64 _ _ _ (by omega)).mono ?_
        rintro _ _ ⟨rfl, rfl⟩
        rw [joined_zero]
        go_wp2
        go_ret
        exact ⟨rfl, HB.out⟩
end Go.Proofs.Ytcafgeebnddkdaa
