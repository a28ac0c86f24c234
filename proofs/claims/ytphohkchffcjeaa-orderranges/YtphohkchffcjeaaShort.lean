/- How long a key may be that came in. -/
import Derived.Test.YtphohkchffcjeaaArgs
namespace Go.Proofs.Ytphohkchffcjeaa
open Go.ChangeShapes Go.WideShapes Go.ChangeAt Go.RowKit Go.Deep Go.Joins

theorem reach_eq : reachBytes = 140737488351232 := by decide
section
variable {H : Type} {enc : TypeId × Value → H} {w : World} {fuel : Nat}
theorem key_len {a : Option Addr} {len cap : Nat} {x : DataW H × List MemPlace} (hf : DataW.trod enc Try.prog w 0 (fun _ => true) true fuel 23 [.slice a len cap] = some x) (hwt : ∀ n ∈ x.1.weights Try.prog 23, n ≤ reachBytes) : len ≤ 140737488351232 := by
  rcases open_ints Try.underlying23 Try.underlying5 cells5 hf with ⟨hcs, hx⟩ | ⟨a, len', cap', zs, hcs, _, hl, hm, hz, hx, hcell, hwz⟩
  · simp at hcs
    omega
  · simp at hcs
    obtain ⟨_, rfl, rfl⟩ := hcs
    simp only [if_true] at hz
    subst hx
    have := hwt _ (by simp only [DataW.weights, Try.underlying23]; exact List.mem_cons_self ..)
    rw [bytes5, reach_eq] at this
    simp [lits] at this
    omega
/-- A key that came in, and how long it may be. -/
theorem key_short {cs : List Value} {x : DataW H × List MemPlace} (hf : DataW.trod enc Try.prog w 0 (fun _ => true) true fuel 23 cs = some x) (hwt : ∀ n ∈ x.1.weights Try.prog 23, n ≤ reachBytes) :
    ∃ v k, cs = [v] ∧ KeyAt w v k ∧ k.length ≤ 140737488351232 := by
  obtain ⟨v, k, rfl, hk⟩ := key_in hf hwt
  obtain ⟨a, c, rfl, _⟩ := hk.is
  exact ⟨_, k, rfl, hk, key_len hf hwt⟩
end
end Go.Proofs.Ytphohkchffcjeaa
