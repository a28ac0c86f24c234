/- The arguments of node's laws: a node, as a walk reads it. -/
import Derived.Test.YtpmcpomomagkhaaArgs
import Derived.Test.YtpmcpomomagkhaaBrArgs
import Derived.Test.YtpmcpomomagkhaaLinks
namespace Go.Proofs.Ytpmcpomomagkhaa
open Go.ChangeShapes Go.WideShapes Go.ChangeAt Go.RowKit Go.Deep Go.Joins

theorem cellsKd : Try.prog.cellsOf 28 = 2 := by kernel_rfl
theorem cellsBu : Try.prog.cellsOf 31 = 3 := by kernel_rfl
theorem cellsMz : Try.prog.cellsOf 29 = 1 := by kernel_rfl
section
variable {H : Type} {enc : TypeId × Value → H} {w : World} {fuel : Nat}
/-- A node's three cells that came in. -/
theorem nd_in {cs : List Value} {x : DataW H × List MemPlace} (hf : DataW.trod enc Try.prog w 0 (fun _ => true) true fuel 31 cs = some x) (hwt : ∀ n ∈ x.1.weights Try.prog 31, n ≤ reachBytes) :
    ∃ c0 c1 c2 ps K M, cs = [c0, c1, c2] ∧ Br.IntsAt w.heap.size w c0 ps ∧ Br.KeysAt w.heap.size w c1 K ∧ MsgsAt w.heap.size w c2 M := by
  obtain ⟨y0, y1, n, hx, hlen3, h0, h1⟩ := trod_struct2 Try.underlying31 hf
  rw [cellsBu] at hlen3
  obtain ⟨c0, c1, c2, rfl⟩ : ∃ c0 c1 c2, cs = [c0, c1, c2] := by
    rcases cs with _ | ⟨c0, _ | ⟨c1, _ | ⟨c2, _ | ⟨c3, r⟩⟩⟩⟩
    all_goals first | exact ⟨_, _, _, rfl⟩ | (simp at hlen3; done) | (exfalso; simp at hlen3; omega)
  have t0 : DataW.trod enc Try.prog w 0 (fun _ => true) true n 28 [c0, c1] = some y0 := by
    have := h0
    simp only [cellsKd, List.drop_zero, List.take_succ_cons, List.take_zero] at this
    exact this
  have t1 : DataW.trod enc Try.prog w 0 (fun _ => true) true n 29 [c2] = some y1 := by
    have := h1
    simp only [cellsMz, List.drop_succ_cons, List.drop_zero, List.take_succ_cons, List.take_zero] at this
    exact this
  subst hx
  have hw : DataW.weights Try.prog 31 (.agg [y0.1, y1.1]) = y0.1.weights Try.prog 28 ++ (y1.1.weights Try.prog 29 ++ []) := by
    simp only [DataW.weights, Try.underlying31]
    rfl
  rw [hw] at hwt
  obtain ⟨v0, v1, ps, K, e0, hk0, hk1⟩ := Br.kd_in t0 (fun m hm => hwt m (List.mem_append_left _ hm))
  simp at e0
  obtain ⟨rfl, rfl⟩ := e0
  obtain ⟨a0, len, cap, e1⟩ : ∃ a len cap, c2 = .slice a len cap := by
    rcases open_slice Try.underlying29 t1 with ⟨hcs, _⟩ | ⟨a, len', cap', m, n, D, Pl, hcs, _⟩
    · simp at hcs; exact ⟨_, _, _, hcs⟩
    · simp at hcs; exact ⟨_, _, _, hcs⟩
  subst e1
  obtain ⟨M, hM⟩ := msgs_in t1 (fun m hm => hwt m (List.mem_append_right _ (List.mem_append_left _ hm)))
  exact ⟨_, _, _, ps, K, M, rfl, hk0, hk1, hM⟩
set_option maxRecDepth 100000 in
/-- A node that came in. -/
theorem node_in {r : Reach} {b0 : Nat} {v : Value} {d : DataW H} {p : List MemPlace} (hv : Value.okWide Try.prog w r b0 31 v) (h : DataW.Trod enc Try.prog w 0 (fun _ => true) true 31 v d p) (hwt : ∀ n ∈ d.weights Try.prog 31, n ≤ reachBytes) :
    ∃ x : List Int × List Br.Kc × List Mt, NodeAt w.heap.size w v x.1 x.2.1 x.2.2 := by
  obtain ⟨cs, rfl, hsz⟩ := okWide_struct Try.underlying31 hv
  obtain ⟨fuel, hf⟩ := h
  obtain ⟨c0, c1, c2, ps, K, M, he, h0, h1, h2⟩ := nd_in (x := (d, p)) hf hwt
  have : cs = #[c0, c1, c2] := by
    have h1 : cs.toList = [c0, c1, c2] := by simpa [Value.cells] using he
    cases cs
    simp_all
  subst this
  exact ⟨(ps, K, M), ⟨_, _, _, rfl, h0, h1, h2⟩⟩
end
end Go.Proofs.Ytpmcpomomagkhaa
