/- made: one more cache of each kind. -/
import Derived.Test.YteajgodpdfcioaaTells
namespace Go.Proofs.Yteajgodpdfcioaa
open Go.RowKit Go.Maps

theorem at_lt {α : Type} {f : Nat → α} {n k : Nat} {v : α} (h : k < n) : at_ f n v k = f k := at_other (by omega)
/-- One more cache of each kind, of new memory. -/
theorem Wos.new {B U n : Nat} {w w' : World} {cs ls rs : Nat → Nat} {SC SL : Nat → Ca Value} {SR : Nat → Ca Int} {bc bl br : Nat} {sc sl : Ca Value} {sr : Ca Int} {pc pl pr : Nat → Prop} (h : Wos B U n w cs ls rs SC SL SR) (hb : Below w.heap.size w w') (hB : B ≤ w.heap.size) (h1 : CacheAt U pc w' bc sc) (h2 : Li.CacheAt U pl w' bl sl) (h3 : RefAt U pr w' br sr) (f1 : ∀ k, pc k → w.heap.size ≤ k) (f2 : ∀ k, pl k → w.heap.size ≤ k) (f3 : ∀ k, pr k → w.heap.size ≤ k) (d : ∀ k, pc k → ¬ pl k) :
    Wos B U (n + 1) w' (at_ cs n bc) (at_ ls n bl) (at_ rs n br) (at_ SC n sc) (at_ SL n sl) (at_ SR n sr) := by
  obtain ⟨oc, ol, or_, h⟩ := h
  have hk : Kept (fun _ => False) w w' := Kept.of_below hb
  refine ⟨at_ oc n pc, at_ ol n pl, at_ or_ n pr, ⟨fun i hi => ?_, fun i hi => ?_, fun i hi => ?_, fun i j k hi hj x y => ?_, fun i j k hi hj x y => ?_, fun i j k hi hj x y => ?_, fun i j k hi hj x y => ?_, fun i k hi x => ?_⟩⟩
  · by_cases e : i = n
    · subst e; rw [at_same, at_same, at_same]; exact h1
    · rw [at_other e, at_other e, at_other e]; exact (h.c i (by omega)).beside hk (fun _ _ f => f)
  · by_cases e : i = n
    · subst e; rw [at_same, at_same, at_same]; exact h2
    · rw [at_other e, at_other e, at_other e]; exact (h.l i (by omega)).beside hk (fun _ _ f => f)
  · by_cases e : i = n
    · subst e; rw [at_same, at_same, at_same]; exact h3
    · rw [at_other e, at_other e, at_other e]; exact (h.r i (by omega)).beside hk (fun _ _ f => f)
  · by_cases e : i = n <;> by_cases e' : j = n
    · omega
    · subst e; rw [at_same] at x; rw [at_other e'] at y
      have := (h.c j (by omega)).lt y; have := f1 k x; omega
    · subst e'; rw [at_same] at y; rw [at_other e] at x
      have := (h.c i (by omega)).lt x; have := f1 k y; omega
    · rw [at_other e] at x; rw [at_other e'] at y; exact h.d1 i j k (by omega) (by omega) x y
  · by_cases e : i = n <;> by_cases e' : j = n
    · omega
    · subst e; rw [at_same] at x; rw [at_other e'] at y
      have := (h.l j (by omega)).lt y; have := f2 k x; omega
    · subst e'; rw [at_same] at y; rw [at_other e] at x
      have := (h.l i (by omega)).lt x; have := f2 k y; omega
    · rw [at_other e] at x; rw [at_other e'] at y; exact h.d2 i j k (by omega) (by omega) x y
  · by_cases e : i = n <;> by_cases e' : j = n
    · omega
    · subst e; rw [at_same] at x; rw [at_other e'] at y
      have := (h.r j (by omega)).lt y; have := f3 k x; omega
    · subst e'; rw [at_same] at y; rw [at_other e] at x
      have := (h.r i (by omega)).lt x; have := f3 k y; omega
    · rw [at_other e] at x; rw [at_other e'] at y; exact h.d3 i j k (by omega) (by omega) x y
  · by_cases e : i = n <;> by_cases e' : j = n
    · subst e; rw [at_same] at x; subst e'; rw [at_same] at y; exact d k x y
    · subst e; rw [at_same] at x; rw [at_other e'] at y
      have := (h.l j (by omega)).lt y; have := f1 k x; omega
    · subst e'; rw [at_same] at y; rw [at_other e] at x
      have := (h.c i (by omega)).lt x; have := f2 k y; omega
    · rw [at_other e] at x; rw [at_other e'] at y; exact h.d4 i j k (by omega) (by omega) x y
  · by_cases e : i = n
    · subst e
      rw [at_same, at_same, at_same] at x
      rcases x with x | x | x
      · exact Nat.le_trans hB (f1 k x)
      · exact Nat.le_trans hB (f2 k x)
      · exact Nat.le_trans hB (f3 k x)
    · rw [at_other e, at_other e, at_other e] at x; exact h.lo i k (by omega) x
theorem ptrs_new {n b : Nat} {f : Nat → Nat} : ptrs (n + 1) (at_ f n b) = ptrs n f ++ [ptr b] := by
  simp only [ptrs, List.range_succ, List.map_append, List.map_cons, List.map_nil, at_same]
  congr 1
  apply List.map_congr_left
  intro i hi
  rw [at_lt (List.mem_range.1 hi)]
theorem all_new {α β : Type} {P : α → β → Prop} {n : Nat} {f : Nat → α} {g : Nat → β} {a : α} {b : β} (h : ∀ i, i < n → P (f i) (g i)) (k : P a b) : ∀ i, i < n + 1 → P (at_ f n a i) (at_ g n b i) := fun i hi => by
  by_cases e : i = n
  · subst e; rw [at_same, at_same]; exact k
  · rw [at_other e, at_other e]; exact h i (by omega)
end Go.Proofs.Yteajgodpdfcioaa
