/- What stays while a cache is called. -/
import Derived.Test.YteajgodpdfcioaaLLists
namespace Go.Proofs.Yteajgodpdfcioaa.Li
open Go.RowKit Go.Maps

theorem CacheAt.facts {U : Nat} {own : Nat → Prop} {w : World} {c : Nat} {s : Ca Value} (k : CacheAt U own w c s) : (s.L.map Th.n).Nodup ∧ s.L.length ≤ s.places ∧ 1 ≤ s.places ∧ s.places ≤ 65536 ∧ ∀ t ∈ s.L, IsT t.x := by
  obtain ⟨h, D, G, nx, pv, k, rfl, ho⟩ := k
  refine ⟨?_, by simpa [Hd.ca] using k.room, k.places.1, k.places.2, fun t ht => ?_⟩
  · have : (h.ca G).L.map Th.n = G.map Pl.n := by simp [Hd.ca, Pl.th]
    rw [this]
    exact k.nums
  · obtain ⟨p, hp, rfl⟩ := List.mem_map.1 (show t ∈ G.map Pl.th from ht)
    exact k.typ p hp
theorem Kept.still {U : Nat} {own : Nat → Prop} {w w' : World} {c : Nat} {s : Ca Value} (k : CacheAt U own w c s) (h : Kept own w w') : Still w w' :=
  ⟨fun i cur t z h1 h2 h3 h4 hi => by
    rw [h.block i (Array.getElem?_eq_some_iff.1 hi).1 (fun ho => by
      rcases k.typ ho hi with e | e
      · first | exact h1 e | exact h3 e
      · first | exact h2 e | exact h4 e)]
    exact hi⟩
theorem Next.still {U : Nat} {own : Nat → Prop} {w w' : World} {c : Nat} {s s' : Ca Value} (k : CacheAt U own w c s) (h : Next U own w c s' w') : Still w w' := by
  obtain ⟨_, _, _, h3⟩ := h
  exact Kept.still k h3
/-- Another cache, apart, stays. -/
theorem CacheAt.beside {U : Nat} {own S : Nat → Prop} {w w' : World} {c : Nat} {s : Ca Value} (k : CacheAt U own w c s) (h : Kept S w w') (ha : ∀ i, own i → ¬ S i) : CacheAt U own w' c s := k.same fun i hi => h.block i (k.lt hi) (ha i hi)
end Go.Proofs.Yteajgodpdfcioaa.Li
