/- A row of rows of numbers. -/
import Derived.Test.YtcfmcakdgamdmaaKeptS
namespace Go.Proofs.Ytcfmcakdgamdmaa
open Go.RowKit

abbrev NewS (base : Nat) (w : World) (v : Value) (vs : List Value) : Prop := w.ownsRow base 47 1 v vs.length vs
theorem infoS : (Try.prog.info? 47).map (fun i => (i.zero, i.size, i.bytes)) = some (some (.slice none 0 0), 1, 24) := by kernel_rfl
theorem infoS' : ∃ i, Try.prog.info? 47 = some i ∧ i.zero = some (.slice none 0 0) ∧ i.size = 1 ∧ i.bytes = 24 := by
  have h := infoS
  cases hi : Try.prog.info? 47 with
  | none => rw [hi] at h; simp at h
  | some i => rw [hi] at h; simp at h; exact ⟨i, rfl, h⟩
/-- A row put behind others. -/
theorem wpList_append_ints {w : World} {ops : Array Oper} {rest : List Oper} {o : Oper} {a : Act} {Q : Exit → Act → World → Prop} (hgd : o.guard = none) (s x : Operand)
    (ho : o.op = .call { callee := .builtin .append, args := #[s, x], argTypes := #[27, 27] }) (base : Nat)
    (v : Value) (L : List Value) (ra : Option Addr) (rn rc : Nat) (hs : a.eval s = v) (hv : NewS base w v L) (g : Nat) (hx : a.eval x = .slice (some ⟨g, 0, none⟩) 1 1)
    (h0 : w.heap[g]? = some (.cells #[.slice ra rn rc] 47 (0, 0)))
    (hlen : (L.length + 1) * 24 ≤ 140737488355328) (hbase : base ≤ w.heap.size)
    (h : ∀ v' w', NewS base w' v' (L ++ [.slice ra rn rc]) → w.grownBy w' v.ownBlock → Keep 47 base w w' → wpList Try.prog ops Q rest (a.put o.dst v') w') : wpList Try.prog ops Q (o :: rest) a w := by
  obtain ⟨i0, hi, hz0, hz1, hz2⟩ := infoS'
  refine wpList_append_own w hgd s x 27 ho base 47 i0 _ 1 24 Try.underlying27 hi hz0 hz1 hz2 rfl (by decide) _ _ _ hs hv ⟨g, 0, none⟩ 1 1 [.slice ra rn rc] hx rfl ?_ (fun u hu => by simp at hu; rw [hu]; rfl) (by unfold maxLen; omega) hlen hbase ?_
  · intro j u hj
    rw [add_at, Nat.zero_add, row_cell h0, ← Array.getElem?_toList]
    exact hj
  · intro v' w' hown hgr _
    refine h v' w' ?_ hgr (Keep.grown hv hgr hbase)
    show w'.ownsRow base 47 1 v' (L ++ [Value.slice ra rn rc]).length (L ++ [Value.slice ra rn rc])
    rw [List.length_append]
    exact hown
theorem own_keep {T B base e n k : Nat} {w w' : World} {v : Value} {xs : List Value} (ho : w.ownsRow base e k v n xs) (hk : Keep T B w w') (ht : e ≠ T) : w'.ownsRow base e k v n xs :=
  own_same ho (fun b hb _ => by
    obtain ⟨_, _, cur, h⟩ := own_type ho b hb
    rw [h]
    exact hk.typ b cur e (0, 0) ht h)
/-- What Held told, row by row. -/
structure Helds (base : Nat) (w : World) (t : Value) (D : List Lf) (S : List Int) (k : Nat) : Prop where
  is : ∃ vs : List Value, vs.length = k ∧ NewS base w t vs ∧ ∀ (j : Nat) (v : Value), vs[j]? = some v → ∃ s : Int, S[j]? = some s ∧ NewI base w v (heldL D s)
theorem Helds.here {base : Nat} {w w' : World} {t : Value} {D : List Lf} {S : List Int} {k : Nat} (h : Helds base w t D S k) (hb : Below w.heap.size w w') : Helds base w' t D S k := by
  obtain ⟨vs, h1, h2, h3⟩ := h.is
  refine ⟨vs, h1, own_here h2 hb, fun j v hj => ?_⟩
  obtain ⟨s, hs, h⟩ := h3 j v hj
  exact ⟨s, hs, own_here h hb⟩
theorem Helds.kept {P : Nat → Prop} {base : Nat} {w w' : World} {t : Value} {D : List Lf} {S : List Int} {k : Nat} (h : Helds base w t D S k) (hk : Kept P w w') (hP : ∀ i, P i → i < base) : Helds base w' t D S k := by
  obtain ⟨vs, h1, h2, h3⟩ := h.is
  have go : ∀ {e n k : Nat} {v : Value} {xs : List Value}, w.ownsRow base e k v n xs → w'.ownsRow base e k v n xs := fun ho => own_kept ho hk (fun b hb hp => by
    have := (own_type ho b hb).2.1
    have := hP b hp
    omega)
  refine ⟨vs, h1, go h2, fun j v hj => ?_⟩
  obtain ⟨s, hs, h⟩ := h3 j v hj
  exact ⟨s, hs, go h⟩
theorem Helds.none (base : Nat) (w : World) (D : List Lf) (S : List Int) : Helds base w (.slice Option.none 0 0) D S 0 := ⟨[], rfl, World.ownsRow_nil _ _ _ _, fun j v hj => by simp at hj⟩
theorem Helds.cell {base : Nat} {w : World} {a : Option Addr} {n c : Nat} {D : List Lf} {S : List Int} {k j : Nat} {s : Int} (h : Helds base w (.slice a n c) D S k) (hj : j < k) (hs : S[j]? = some s) : n = k ∧ ∃ g off ra rc, a = some ⟨g, off, Option.none⟩ ∧ g < w.heap.size ∧ w.cell? ⟨g, off + j, Option.none⟩ = some (.slice ra (heldL D s).length rc) ∧ IntsAt w (.slice ra (heldL D s).length rc) (heldL D s) := by
  obtain ⟨vs, h1, h2, h3⟩ := h.is
  obtain ⟨v, hv⟩ : ∃ v, vs[j]? = some v := ⟨_, List.getElem?_eq_getElem (by omega)⟩
  obtain ⟨s', hs', hn⟩ := h3 j v hv
  rw [hs] at hs'
  cases hs'
  obtain ⟨ra, rc, e⟩ := own_slice hn
  subst e
  obtain ⟨⟨a', c', e', _, _, hc⟩, _⟩ := RowAt.own h2
  cases e'
  obtain ⟨g, off, e1, e2, e3⟩ := hc j _ hv
  exact ⟨h1, g, off, ra, rc, e1, e2, e3, RowAt.own hn⟩
theorem helds_step {base k : Nat} {W w' : World} {v' r : Value} {D : List Lf} {S : List Int} {s : Int} {vs : List Value} (hl : vs.length = k) (hs : S[k]? = some s) (he : ∀ (j : Nat) (v : Value), vs[j]? = some v → ∃ s : Int, S[j]? = some s ∧ NewI base W v (heldL D s)) (hr : NewI base W r (heldL D s)) (hk : Keep 47 base W w') (hn : NewS base w' v' (vs ++ [r])) : Helds base w' v' D S (k + 1) := by
  refine ⟨vs ++ [r], by simp [hl], hn, fun j v hj => ?_⟩
  rw [List.getElem?_append] at hj
  split at hj
  · obtain ⟨s', h1, h2⟩ := he j v hj
    exact ⟨s', h1, own_keep h2 hk (by decide)⟩
  · rename_i hlt
    have hj0 : j - vs.length = 0 := by
      rcases Nat.eq_zero_or_pos (j - vs.length) with h | h
      · exact h
      · rw [List.getElem?_eq_none (by simp; omega)] at hj; cases hj
    rw [hj0] at hj
    cases hj
    obtain rfl : j = k := by omega
    exact ⟨s, hs, own_keep hr hk (by decide)⟩
theorem u64_take {w : World} {a : Option Addr} {c f : Nat} {S : List Int} (h : U64At w (.slice a S.length c) S) (hf : f ≤ S.length) : U64At w (.slice a (S.take f).length c) (S.take f) := by
  obtain ⟨⟨a', c', e, h1, h2, h3⟩, h4⟩ := h
  cases e
  have hl : (S.take f).length = f := List.length_take_of_le hf
  refine ⟨⟨a, c, rfl, by rw [hl]; exact Nat.le_trans hf h1, h2, fun j u hj => h3 j u ?_⟩, by simp⟩
  rw [List.map_take, List.getElem?_take] at hj
  split at hj
  · exact hj
  · cases hj
end Go.Proofs.Ytcfmcakdgamdmaa
