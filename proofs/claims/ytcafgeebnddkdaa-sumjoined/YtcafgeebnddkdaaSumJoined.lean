/- The law SumJoined is proved: for every three sums and every two numbers, in whatever memory and on whatever tape, it returns true, and its argument and all memory that was there are as they were; no condition. -/
import Derived.Test.YtcafgeebnddkdaaRows
import Derived.Test.YtcafgeebnddkdaaJoined
import Derived.WalkKit
import Derived.ProofKit
import Derived.OpenShut
import Derived.SizedLaws
namespace Go.Proofs.Ytcafgeebnddkdaa
open Go.ChangeShapes Go.WideShapes Go.ChangeAt Go.RowKit

theorem try_own : ownKnob Try.prog.godebug = none := by kernel_rfl
theorem try_laidOut : laidOutB Try.prog = true := by kernel_rfl
theorem cells33 : Try.prog.cellsOf 33 = 5 := by kernel_rfl
theorem cells23 : Try.prog.cellsOf 23 = 1 := by kernel_rfl
theorem cells3 : Try.prog.cellsOf 3 = 1 := by kernel_rfl

theorem word_of {n : Int} (h : (Lit.int .u64 n).wf = true) : ∃ x : BitVec 64, n = (x.toNat : Int) := by
  have hb : 0 ≤ n ∧ n ≤ 18446744073709551615 := by simpa [Lit.wf, IntKind.min, IntKind.max, IntKind.bits, IntKind.signed] using h
  exact ⟨BitVec.ofNat 64 n.toNat, by rw [BitVec.toNat_ofNat]; omega⟩

set_option maxHeartbeats 800000 in
set_option maxRecDepth 100000 in
theorem sumJoined_lifted (os : Os) (started : os.Started) (H : Type) (enc : TypeId × Value → H) :
    ReturnsInHanded {} Try.checked os 6 .any (Rows.sumJoinedSpec.pre6 enc Try.prog Try.f6 Rows.sumJoinedRow.domain false) (Rows.sumJoinedSpec.post enc Try.prog Try.f6 false true false false) := by
  refine returnsInHanded_of_change_sized (C := Try.checked) try_own started (by kernel_rfl) Try.func6
    (ChangeSpec.witness6 (enc := enc) (C := Try.checked) false ⟨#[], #[.agg #[.int .u64 0, .int .u64 0, .int .u64 0, .int .i64 0, .int .i64 0]], []⟩ 8 (by kernel_rfl) (by kernel_rfl) (by kernel_rfl) (by kernel_rfl)) ?_
  intro W base args ds gs before hval0 hW _ hsz0 _
  clear hsz0
  have hval : ∀ (j : Nat) t v, Try.f6.params[j]? = some t → args[j]? = some v → Value.okWide Try.prog W .any base t v := hval0
  have hW' := hW
  obtain ⟨p, q, hA0, hV, rfl, _, _⟩ := hW
  have hA : DataW.TrodAll enc Try.prog W 0 (fun _ => true) true Try.f6.params.toList args.toList ds p := hA0
  rw [Try.params6] at hA hval
  obtain ⟨v0, vs0, d0, ds0, p0, q0, hargs, rfl, rfl, h0, r0⟩ := trodAll_cons hA
  obtain ⟨rfl, rfl, rfl⟩ := trodAll_nil r0
  obtain rfl : args = #[v0] := by cases args; simp_all
  obtain ⟨rfl, rfl⟩ := trodVars_none hV
  have k0 := h0
  have lt0 : ∀ x ∈ p0, x.block < W.heap.size := by obtain ⟨m, hm⟩ := k0; exact DataW.trod_lt m _ _ _ hm
  obtain ⟨cs, rfl, hcs⟩ := okWide_struct Try.underlying33 (hval 0 33 v0 rfl rfl)
  obtain ⟨a, b, c, N, M, hN, hM, rfl⟩ : ∃ (a b c : BitVec 64) (N M : Int), (Lit.int .i64 N).wf = true ∧ (Lit.int .i64 M).wf = true ∧ cs = #[.int .u64 (a.toNat : Int), .int .u64 (b.toNat : Int), .int .u64 (c.toNat : Int), .int .i64 N, .int .i64 M] := by
    rw [cells33] at hcs
    obtain ⟨l⟩ := cs
    obtain ⟨c0, c1, c2, c3, c4, rfl⟩ : ∃ c0 c1 c2 c3 c4, l = [c0, c1, c2, c3, c4] := by
      rcases l with _ | ⟨c0, _ | ⟨c1, _ | ⟨c2, _ | ⟨c3, _ | ⟨c4, _ | ⟨c5, r⟩⟩⟩⟩⟩⟩
      all_goals first | exact ⟨_, _, _, _, _, rfl⟩ | (simp at hcs; done) | (exfalso; simp at hcs; omega)
    obtain ⟨fuel, hf⟩ := h0
    obtain ⟨xs, n, _, _, _, hlen, hfld⟩ := DataW.trod_struct Try.underlying33 hf
    have hx : xs.length = 5 := hlen
    obtain ⟨x0, x1, x2, x3, x4, rfl⟩ : ∃ x0 x1 x2 x3 x4, xs = [x0, x1, x2, x3, x4] := by
      rcases xs with _ | ⟨x0, _ | ⟨x1, _ | ⟨x2, _ | ⟨x3, _ | ⟨x4, _ | ⟨x5, r⟩⟩⟩⟩⟩⟩
      all_goals first | exact ⟨_, _, _, _, _, rfl⟩ | (simp at hx; done) | (exfalso; simp at hx; omega)
    have f0 : DataW.trod enc Try.prog W 0 (fun _ => true) true n 23 (List.take (Try.prog.cellsOf 23) (List.drop 0 [c0, c1, c2, c3, c4])) = some x0 := hfld 0 _ rfl
    rw [cells23] at f0
    obtain ⟨z0, e0, _, wz0⟩ := DataW.trod_int Try.underlying23 f0
    have g0 : c0 = .int .u64 z0 := by simpa using e0
    have f1 : DataW.trod enc Try.prog W 0 (fun _ => true) true n 23 (List.take (Try.prog.cellsOf 23) (List.drop 1 [c0, c1, c2, c3, c4])) = some x1 := hfld 1 _ rfl
    rw [cells23] at f1
    obtain ⟨z1, e1, _, wz1⟩ := DataW.trod_int Try.underlying23 f1
    have g1 : c1 = .int .u64 z1 := by simpa using e1
    have f2 : DataW.trod enc Try.prog W 0 (fun _ => true) true n 23 (List.take (Try.prog.cellsOf 23) (List.drop 2 [c0, c1, c2, c3, c4])) = some x2 := hfld 2 _ rfl
    rw [cells23] at f2
    obtain ⟨z2, e2, _, wz2⟩ := DataW.trod_int Try.underlying23 f2
    have g2 : c2 = .int .u64 z2 := by simpa using e2
    have f3 : DataW.trod enc Try.prog W 0 (fun _ => true) true n 3 (List.take (Try.prog.cellsOf 3) (List.drop 3 [c0, c1, c2, c3, c4])) = some x3 := hfld 3 _ rfl
    rw [cells3] at f3
    obtain ⟨z3, e3, _, wz3⟩ := DataW.trod_int Try.underlying3 f3
    have g3 : c3 = .int .i64 z3 := by simpa using e3
    have f4 : DataW.trod enc Try.prog W 0 (fun _ => true) true n 3 (List.take (Try.prog.cellsOf 3) (List.drop 4 [c0, c1, c2, c3, c4])) = some x4 := hfld 4 _ rfl
    rw [cells3] at f4
    obtain ⟨z4, e4, _, wz4⟩ := DataW.trod_int Try.underlying3 f4
    have g4 : c4 = .int .i64 z4 := by simpa using e4
    subst g0 g1 g2 g3 g4
    obtain ⟨a, rfl⟩ := word_of wz0
    obtain ⟨b, rfl⟩ := word_of wz1
    obtain ⟨c, rfl⟩ := word_of wz2
    exact ⟨a, b, c, z3, z4, wz3, wz4, rfl⟩
  refine (joined_walk a b c N M W hN hM).mono fun e W' ⟨he, bel⟩ => ?_
  subst he
  exact ⟨_, rfl, _, _, _, [], _, [], hW', trodAll_mk1 (shut_bool Try.underlying4 _),
    (trodAll_cons_mk (Below.trod try_laidOut (by kernel_rfl) (of_decide_eq_true (by kernel_rfl)) k0 bel lt0) trodAll_mk0), rfl, bel.frame _, fun h => by cases h⟩

theorem sumJoined_over : Rows.sumJoinedRow.holds Try.pinned (OpenSpec.ofChange Rows.sumJoinedSpec) :=
  OpenClaim.holds_of_wide 6 Try.f6 rfl rfl rfl rfl rfl rfl rfl ⟨rfl, rfl, rfl, rfl, rfl⟩ rfl rfl rfl rfl rfl (by kernel_rfl) Try.func6 (by kernel_rfl)
    (of_decide_eq_true (by kernel_rfl)) (by unfold Func.isWrapper; first | (rw [if_pos (by decide +kernel)]; kernel_rfl) | (rw [if_neg (by decide +kernel)]; exact ⟨rfl, rfl⟩))
    (fun os started H enc _ => sumJoined_lifted os started H enc)

/-- The statement. -/
theorem sumJoined_holds : Rows.SumJoinedSaid := sumJoined_over
#print axioms sumJoined_holds
end Go.Proofs.Ytcafgeebnddkdaa
