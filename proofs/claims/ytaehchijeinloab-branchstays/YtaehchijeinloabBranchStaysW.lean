/- The law BranchStays is proved: for every input, in whatever memory and on whatever tape, it returns true, and its arguments and all memory that was there are as they were; no condition. -/
import Derived.Test.YtaehchijeinloabArgsW
import Derived.Test.YtaehchijeinloabStaysWalkW
namespace Go.Proofs.Ytaehchijeinloab
open Go.ChangeShapes Go.WideShapes Go.ChangeAt Go.RowKit Go.Deep Go.Joins

/-- A list of keys that came in, by its weight. -/
theorem keys_short {H : Type} {enc : TypeId × Value → H} {w : World} {fuel : Nat} {a0 : Option Addr} {len cap : Nat} {x : DataW H × List MemPlace} (hf : DataW.trod enc Try.prog w 0 (fun _ => true) true fuel 23 [.slice a0 len cap] = some x) (hwt : ∀ n ∈ x.1.weights Try.prog 23, n ≤ reachBytes) : len * 24 ≤ 140737488355328 := by
  rcases open_slice Try.underlying23 hf with ⟨hcs, _⟩ | ⟨a, len', cap', m, n, D, Pl, hcs, _, hl, hm, hmm, hx, _⟩
  · simp at hcs
    omega
  · simp at hcs
    obtain ⟨rfl, rfl, rfl⟩ := hcs
    simp only [if_true] at hmm
    subst hmm
    have := hwt _ (by rw [hx]; simp only [DataW.weights, Try.underlying23]; exact List.mem_cons_self ..)
    rw [bytesBy] at this
    have hr := reach_is
    simp at this
    omega
/-- The keys of Kids that came in, by their weight. -/
theorem kids_short {H : Type} {enc : TypeId × Value → H} {w : World} {v : Value} {d : DataW H} {p : List MemPlace} {ps : List Int} {L : List Kc} (h : DataW.Trod enc Try.prog w 0 (fun _ => true) true 25 v d p) (hwt : ∀ n ∈ d.weights Try.prog 25, n ≤ reachBytes) (hk : KidsAt w.heap.size w v ps L) : L.length * 24 ≤ 140737488355328 := by
  obtain ⟨vp, vk, rfl, h1, h2⟩ := hk.is
  obtain ⟨a1, c1, rfl⟩ := h1.form
  obtain ⟨a2, c2, rfl⟩ := h2.form
  obtain ⟨fuel, hf⟩ := h
  obtain ⟨y0, y1, n, hx, _, g0, g1⟩ := trod_struct2 Try.underlying25 hf
  simp only [cellsIs, cellsBs, Value.cells, List.drop_succ_cons, List.drop_zero, List.take_succ_cons, List.take_zero] at g0 g1
  cases hx
  have hw : DataW.weights Try.prog 25 (.agg [y0.1, y1.1]) = y0.1.weights Try.prog 22 ++ (y1.1.weights Try.prog 23 ++ []) := by
    simp only [DataW.weights, Try.underlying25]
    rfl
  rw [hw] at hwt
  exact keys_short g1 fun m hm => hwt m (List.mem_append_right _ (List.mem_append_left _ hm))

set_option maxHeartbeats 800000 in
set_option maxRecDepth 100000 in
theorem branchStays_lifted (os : Os) (started : os.Started) (H : Type) (enc : TypeId × Value → H) :
    ReturnsInHanded {} Try.checked os 4 .any (Rows.branchStaysSpec.pre6 enc Try.prog Try.f4 Rows.branchStaysRow.domain false) (Rows.branchStaysSpec.post enc Try.prog Try.f4 false true false false) := by
  refine returnsInHanded_of_change_sized (C := Try.checked) own_knob started (by kernel_rfl) Try.func4
    (ChangeSpec.witness6 (enc := enc) (C := Try.checked) false ⟨#[], #[.int .i64 0, .agg #[.slice none 0 0, .slice none 0 0], .int .i64 0, .int .i64 0, .agg #[.slice none 0 0, .slice none 0 0], .slice none 0 0], []⟩ 8 (by kernel_rfl) (by kernel_rfl) (by kernel_rfl) (by kernel_rfl)) ?_
  intro W base args ds gs before hval0 hW _ hsz0 _
  have hsz : (DataW.weightsEach Try.prog (Try.f4.params.toList ++ Rows.branchStaysSpec.plain.varTypes Try.prog) (ds ++ gs)).all (· ≤ reachBytes) = true := hsz0
  clear hsz0
  have hval : ∀ (j : Nat) t v, Try.f4.params[j]? = some t → args[j]? = some v → Value.okWide Try.prog W .any base t v := hval0
  have hW' := hW
  obtain ⟨p, q, hA0, hV, rfl, _, _⟩ := hW
  have hA : DataW.TrodAll enc Try.prog W 0 (fun _ => true) true Try.f4.params.toList args.toList ds p := hA0
  rw [Try.params4] at hA hval hsz
  obtain ⟨v0, vs0, d0, ds0, p0, q0, hargs, rfl, rfl, h0, r0⟩ := trodAll_cons hA
  obtain ⟨v1, vs1, d1, ds1, p1, q1, rfl, rfl, rfl, h1, r1⟩ := trodAll_cons r0
  obtain ⟨v2, vs2, d2, ds2, p2, q2, rfl, rfl, rfl, h2, r2⟩ := trodAll_cons r1
  obtain ⟨v3, vs3, d3, ds3, p3, q3, rfl, rfl, rfl, h3, r3⟩ := trodAll_cons r2
  obtain ⟨v4, vs4, d4, ds4, p4, q4, rfl, rfl, rfl, h4, r4⟩ := trodAll_cons r3
  obtain ⟨v5, vs5, d5, ds5, p5, q5, rfl, rfl, rfl, h5, r5⟩ := trodAll_cons r4
  obtain ⟨rfl, rfl, rfl⟩ := trodAll_nil r5
  obtain rfl : args = #[v0, v1, v2, v3, v4, v5] := by cases args; simp_all
  obtain ⟨rfl, rfl⟩ := trodVars_none hV
  have k0 := h0
  have lt0 : ∀ x ∈ p0, x.block < W.heap.size := by obtain ⟨m, hm⟩ := k0; exact DataW.trod_lt m _ _ _ hm
  have w0 : ∀ n ∈ d0.weights Try.prog 3, n ≤ reachBytes := fun n hn => by simpa using List.all_eq_true.1 hsz n (DataW.weights_mem_each (j := 0) (t := 3) rfl rfl n hn)
  obtain ⟨x0, hx0⟩ : ∃ z, v0 = .int .i64 z ∧ (Lit.int .i64 z).wf = true := by
    obtain ⟨n, rfl⟩ := okWide_int Try.underlying3 (hval 0 3 v0 rfl rfl)
    obtain ⟨fuel, hf⟩ := h0
    obtain ⟨z, e, hw⟩ := int_in (x := (d0, p0)) hf
    have e2 : Value.int .i64 n = .int .i64 z := by simpa [Value.cells] using e
    exact ⟨z, e2, hw⟩
  obtain ⟨rfl, hz0⟩ := hx0
  have k1 := h1
  have lt1 : ∀ x ∈ p1, x.block < W.heap.size := by obtain ⟨m, hm⟩ := k1; exact DataW.trod_lt m _ _ _ hm
  have w1 : ∀ n ∈ d1.weights Try.prog 25, n ≤ reachBytes := fun n hn => by simpa using List.all_eq_true.1 hsz n (DataW.weights_mem_each (j := 1) (t := 25) rfl rfl n hn)
  obtain ⟨⟨y1, z1⟩, hx1⟩ := kids_in (hval 1 25 v1 rfl rfl) h1 w1
  have k2 := h2
  have lt2 : ∀ x ∈ p2, x.block < W.heap.size := by obtain ⟨m, hm⟩ := k2; exact DataW.trod_lt m _ _ _ hm
  have w2 : ∀ n ∈ d2.weights Try.prog 3, n ≤ reachBytes := fun n hn => by simpa using List.all_eq_true.1 hsz n (DataW.weights_mem_each (j := 2) (t := 3) rfl rfl n hn)
  obtain ⟨x2, hx2⟩ : ∃ z, v2 = .int .i64 z ∧ (Lit.int .i64 z).wf = true := by
    obtain ⟨n, rfl⟩ := okWide_int Try.underlying3 (hval 2 3 v2 rfl rfl)
    obtain ⟨fuel, hf⟩ := h2
    obtain ⟨z, e, hw⟩ := int_in (x := (d2, p2)) hf
    have e2 : Value.int .i64 n = .int .i64 z := by simpa [Value.cells] using e
    exact ⟨z, e2, hw⟩
  obtain ⟨rfl, hz2⟩ := hx2
  have k3 := h3
  have lt3 : ∀ x ∈ p3, x.block < W.heap.size := by obtain ⟨m, hm⟩ := k3; exact DataW.trod_lt m _ _ _ hm
  have w3 : ∀ n ∈ d3.weights Try.prog 3, n ≤ reachBytes := fun n hn => by simpa using List.all_eq_true.1 hsz n (DataW.weights_mem_each (j := 3) (t := 3) rfl rfl n hn)
  obtain ⟨x3, hx3⟩ : ∃ z, v3 = .int .i64 z ∧ (Lit.int .i64 z).wf = true := by
    obtain ⟨n, rfl⟩ := okWide_int Try.underlying3 (hval 3 3 v3 rfl rfl)
    obtain ⟨fuel, hf⟩ := h3
    obtain ⟨z, e, hw⟩ := int_in (x := (d3, p3)) hf
    have e2 : Value.int .i64 n = .int .i64 z := by simpa [Value.cells] using e
    exact ⟨z, e2, hw⟩
  obtain ⟨rfl, hz3⟩ := hx3
  have k4 := h4
  have lt4 : ∀ x ∈ p4, x.block < W.heap.size := by obtain ⟨m, hm⟩ := k4; exact DataW.trod_lt m _ _ _ hm
  have w4 : ∀ n ∈ d4.weights Try.prog 25, n ≤ reachBytes := fun n hn => by simpa using List.all_eq_true.1 hsz n (DataW.weights_mem_each (j := 4) (t := 25) rfl rfl n hn)
  obtain ⟨⟨y4, z4⟩, hx4⟩ := kids_in (hval 4 25 v4 rfl rfl) h4 w4
  have k5 := h5
  have lt5 : ∀ x ∈ p5, x.block < W.heap.size := by obtain ⟨m, hm⟩ := k5; exact DataW.trod_lt m _ _ _ hm
  have w5 : ∀ n ∈ d5.weights Try.prog 26, n ≤ reachBytes := fun n hn => by simpa using List.all_eq_true.1 hsz n (DataW.weights_mem_each (j := 5) (t := 26) rfl rfl n hn)
  obtain ⟨x5, hx5⟩ : ∃ k, KeyAt W v5 k := by
    obtain ⟨a, len, cap, rfl⟩ := okWide_slice Try.underlying26 (hval 5 26 v5 rfl rfl)
    obtain ⟨fuel, hf⟩ := h5
    obtain ⟨v, k, e, hk⟩ := key_in (x := (d5, p5)) hf w5
    have e2 : Value.slice a len cap = v := by simpa [Value.cells] using e
    exact ⟨k, by rw [e2]; exact hk⟩
  clear hA0 hval0 hsz
  refine (stays_walk hx1 hz2 hz3 hx4 hx5 (kids_short k4 w4 hx4)).mono fun e W' ⟨he, bel⟩ => ?_
  subst he
  exact ⟨_, rfl, _, _, _, [], _, [], hW', trodAll_mk1 (shut_bool Try.underlying4 _),
    (trodAll_cons_mk (Below.trod laid_out (by kernel_rfl) (of_decide_eq_true (by kernel_rfl)) k0 bel lt0) (trodAll_cons_mk (Below.trod laid_out (by kernel_rfl) (of_decide_eq_true (by kernel_rfl)) k1 bel lt1) (trodAll_cons_mk (Below.trod laid_out (by kernel_rfl) (of_decide_eq_true (by kernel_rfl)) k2 bel lt2) (trodAll_cons_mk (Below.trod laid_out (by kernel_rfl) (of_decide_eq_true (by kernel_rfl)) k3 bel lt3) (trodAll_cons_mk (Below.trod laid_out (by kernel_rfl) (of_decide_eq_true (by kernel_rfl)) k4 bel lt4) (trodAll_cons_mk (Below.trod laid_out (by kernel_rfl) (of_decide_eq_true (by kernel_rfl)) k5 bel lt5) (trodAll_mk0))))))), rfl, bel.frame _, fun h => by cases h⟩

theorem branchStays_over : Rows.branchStaysRow.holds Try.pinned (OpenSpec.ofChange Rows.branchStaysSpec) :=
  OpenClaim.holds_of_wide 4 Try.f4 rfl rfl rfl rfl rfl rfl rfl ⟨rfl, rfl, rfl, rfl, rfl⟩ rfl rfl rfl rfl rfl (by kernel_rfl) Try.func4 (by kernel_rfl)
    (of_decide_eq_true (by kernel_rfl)) (by unfold Func.isWrapper; first | (rw [if_pos (by decide +kernel)]; kernel_rfl) | (rw [if_neg (by decide +kernel)]; exact ⟨rfl, rfl⟩))
    (fun os started H enc _ => branchStays_lifted os started H enc)

/-- The statement. -/
theorem branchStays_holds : Rows.BranchStaysSaid := branchStays_over
#print axioms branchStays_holds
end Go.Proofs.Ytaehchijeinloab
