/- How long a key, a range may be that came in. -/
import Derived.Test.YtaehchijeinloaaArgs
import Derived.Test.YtaehchijeinloaaSpansW1
namespace Go.Proofs.Ytaehchijeinloaa
open Go.ChangeShapes Go.WideShapes Go.ChangeAt Go.RowKit Go.Deep Go.Joins

theorem reach_eq : reachBytes = 140737488351232 := by decide
section
variable {H : Type} {enc : TypeId × Value → H} {w : World} {fuel : Nat}
theorem key_len {a : Option Addr} {len cap : Nat} {x : DataW H × List MemPlace} (hf : DataW.trod enc Try.prog w 0 (fun _ => true) true fuel 27 [.slice a len cap] = some x) (hwt : ∀ n ∈ x.1.weights Try.prog 27, n ≤ reachBytes) : len ≤ 140737488351232 := by
  rcases open_ints Try.underlying27 Try.underlying5 cells5 hf with ⟨hcs, hx⟩ | ⟨a, len', cap', zs, hcs, _, hl, hm, hz, hx, hcell, hwz⟩
  · simp at hcs
    omega
  · simp at hcs
    obtain ⟨_, rfl, rfl⟩ := hcs
    simp only [if_true] at hz
    subst hx
    have := hwt _ (by simp only [DataW.weights, Try.underlying27]; exact List.mem_cons_self ..)
    rw [bytes5, reach_eq] at this
    simp [lits] at this
    omega
/-- A key that came in, and how long it may be. -/
theorem key_short {cs : List Value} {x : DataW H × List MemPlace} (hf : DataW.trod enc Try.prog w 0 (fun _ => true) true fuel 27 cs = some x) (hwt : ∀ n ∈ x.1.weights Try.prog 27, n ≤ reachBytes) :
    ∃ v k, cs = [v] ∧ KeyAt w v k ∧ k.length ≤ 140737488351232 := by
  obtain ⟨v, k, rfl, hk⟩ := key_in hf hwt
  obtain ⟨a, c, rfl, _⟩ := hk.is
  exact ⟨_, k, rfl, hk, key_len hf hwt⟩
set_option maxRecDepth 100000 in
theorem range_short {r : Reach} {b0 : Nat} {v : Value} {d : DataW H} {p : List MemPlace} (hv : Value.okWide Try.prog w r b0 47 v) (h : DataW.Trod enc Try.prog w 0 (fun _ => true) true 47 v d p) (hwt : ∀ n ∈ d.weights Try.prog 47, n ≤ reachBytes) :
    ∃ rg, RangeAt w v rg ∧ rg.Short 140737488351232 := by
  obtain ⟨cs, rfl, hsz⟩ := okWide_struct Try.underlying47 hv
  obtain ⟨fuel, hf⟩ := h
  obtain ⟨y0, y1, y2, n, hx, hlen3, h0, h1, h2⟩ := trod_struct3 Try.underlying47 hf
  rw [cells36] at hlen3
  obtain ⟨c0, c1, c2, rfl⟩ : ∃ c0 c1 c2, cs = #[c0, c1, c2] := by
    rcases cs with ⟨_ | ⟨c0, _ | ⟨c1, _ | ⟨c2, _ | ⟨c3, r⟩⟩⟩⟩⟩
    all_goals first | exact ⟨_, _, _, rfl⟩ | (simp [Value.cells] at hlen3; done) | (exfalso; simp [Value.cells] at hlen3; omega)
  have t0 : DataW.trod enc Try.prog w 0 (fun _ => true) true n 27 [c0] = some y0 := by
    have := h0
    simp only [Value.cells, cells23, List.drop_zero, List.take_succ_cons, List.take_zero] at this
    exact this
  have t1 : DataW.trod enc Try.prog w 0 (fun _ => true) true n 27 [c1] = some y1 := by
    have := h1
    simp only [Value.cells, cells23, List.drop_succ_cons, List.drop_zero, List.take_succ_cons, List.take_zero] at this
    exact this
  have t2 : DataW.trod enc Try.prog w 0 (fun _ => true) true n 4 [c2] = some y2 := by
    have := h2
    simp only [Value.cells, cells4, List.drop_succ_cons, List.drop_zero, List.take_succ_cons, List.take_zero] at this
    exact this
  have hd : d = .agg [y0.1, y1.1, y2.1] := by
    have := congrArg Prod.fst hx
    exact this
  subst hd
  have hw : DataW.weights Try.prog 47 (.agg [y0.1, y1.1, y2.1]) = y0.1.weights Try.prog 27 ++ (y1.1.weights Try.prog 27 ++ (y2.1.weights Try.prog 4 ++ [])) := by
    simp only [DataW.weights, Try.underlying47]
    rfl
  rw [hw] at hwt
  obtain ⟨v0, k0, e0, hk0, l0⟩ := key_short t0 (fun m hm => hwt m (List.mem_append_left _ hm))
  obtain ⟨v1, k1, e1, hk1, l1⟩ := key_short t1 (fun m hm => hwt m (List.mem_append_right _ (List.mem_append_left _ hm)))
  obtain ⟨b, e2, _⟩ := DataW.trod_bool Try.underlying4 t2
  simp at e0 e1 e2
  subst e0 e1 e2
  exact ⟨⟨k0, k1, b⟩, ⟨_, _, rfl, hk0, hk1⟩, l0, l1⟩
end
end Go.Proofs.Ytaehchijeinloaa
