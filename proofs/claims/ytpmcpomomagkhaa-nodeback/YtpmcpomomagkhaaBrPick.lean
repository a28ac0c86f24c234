/- BranchForm's walk: there and back, one form. -/
import Derived.Test.YtpmcpomomagkhaaBrSame
namespace Go.Proofs.Ytpmcpomomagkhaa.Br
open Go.RowKit

/-- Which of n things a raw number speaks of. -/
def pickK (c : Int) (n : Nat) : Nat := (if c < 0 then -(c + 1) else c).toNat % n
theorem pickK_lt (c : Int) (n : Nat) (h : 0 < n) : pickK c n < n := Nat.mod_lt _ h
set_option maxHeartbeats 800000 in
set_option maxRecDepth 100000 in
theorem pick_any (w : World) (c : Int) (n : Nat) (hc : (Lit.int .i64 c).wf = true) (h0 : 0 < n) (hn : n ≤ 140737488355328) :
    Calls Try.prog 7 #[.int .i64 c, .int .i64 n] w fun r w' => r = .returned (.int .i64 (pickK c n : Nat)) ∧ w' = w := by
  have hb : -9223372036854775808 ≤ c ∧ c ≤ 9223372036854775807 := by simpa [Lit.wf, IntKind.min, IntKind.max, IntKind.bits, IntKind.signed] using hc
  have hnz : ((n : Int) == 0) = false := by rw [beq_eq_false_iff_ne]; omega
  by_cases h : c < 0
  · obtain ⟨m, hm⟩ : ∃ m : Nat, -(c + 1) = (m : Int) := ⟨(-(c + 1)).toNat, by omega⟩
    have HP : Hid (pickK c n = m % n) := by unfold pickK; rw [Hid, if_pos h, hm]; rfl
    have hcm : c = -(m : Int) - 1 := by omega
    have hmm : (m : Int).tmod (n : Int) = ((m % n : Nat) : Int) := by rw [Int.tmod_eq_emod_of_nonneg (by omega)]; rfl
    go_enter Try.func7, Try.ntmps7
    go_wp2
    go_ret
    refine ⟨?_, rfl⟩
    rw [HP.out]
    simp
  · obtain ⟨m, rfl⟩ : ∃ m : Nat, c = (m : Int) := ⟨c.toNat, by omega⟩
    have HP : Hid (pickK m n = m % n) := by unfold pickK; rw [Hid, if_neg h]; rfl
    go_enter Try.func7, Try.ntmps7
    go_wp2
    go_ret
    refine ⟨?_, rfl⟩
    rw [HP.out]
    simp
end Go.Proofs.Ytpmcpomomagkhaa.Br
