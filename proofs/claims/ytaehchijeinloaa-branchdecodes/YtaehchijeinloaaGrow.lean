/- Rows that are put together: onto a row of new memory, or onto one without room behind it. -/
import Derived.Test.YtaehchijeinloaaSpan
import Derived.ArgAppend
import Derived.Deep.DeepAppendWide
namespace Go.Proofs.Ytaehchijeinloaa
open Go.RowKit

/-- Nothing put behind a slice: it is as it was. -/
theorem run_append_nothing {P : Program} (w : World) (t ty e : TypeId) (i : TypeInfo) (ht : P.underlying t = some (.slice e)) (hi : P.info? e = some i) (b : Addr) (n cap : Nat) (hroom : n ≤ cap) (x : Value) (hx : x = .slice none 0 0 ∨ ∃ a c, x = .slice (some a) 0 c) :
    (Builtin.append_ #[t, t] ty #[.slice (some b) n cap, x]).run P w = .ok (.slice (some b) n cap) w := by
  rcases hx with rfl | ⟨a, c, rfl⟩
  · simp [Builtin.append_, run_underlying ht, sizeOf, typeInfo, hi, Builtin.lenOf, hroom, Builtin.firstCells, storeCells]
  · have hfc := run_firstCells_some (P := P) w i.size 0 a 0 c [] (by simp) (by simp)
    simp [Builtin.append_, run_underlying ht, sizeOf, typeInfo, hi, Builtin.lenOf, hroom, hfc, storeCells]

/-- A row of new memory, or one below the border without room behind it. -/
structure Room (base : Nat) (e : TypeId) (w : World) (v : Value) (xs : List Value) : Prop where
  is : w.ownsRow base e 1 v xs.length xs ∨ (CellsAt base w v xs ∧ ∃ a, v = .slice (some a) xs.length xs.length)
theorem Room.cells {base : Nat} {e : TypeId} {w : World} {v : Value} {xs : List Value} (h : Room base e w v xs) (hb : base ≤ w.heap.size) : CellsAt w.heap.size w v xs := by
  rcases h.is with h | ⟨h, _⟩
  · exact own_cells h rfl
  · exact h.mono hb
theorem Room.here {base : Nat} {e : TypeId} {w w' : World} {v : Value} {xs : List Value} (h : Room base e w v xs) (hb : Below w.heap.size w w') (hB : base ≤ w.heap.size) : Room base e w' v xs := by
  rcases h.is with h | ⟨h, h2⟩
  · exact ⟨.inl (own_same h fun b _ hl => hb.block b hl)⟩
  · exact ⟨.inr ⟨h.below (hb.mono hB), h2⟩⟩
theorem Room.keep {base : Nat} {e T : TypeId} {w w' : World} {v : Value} {xs : List Value} (h : Room base e w v xs) (hk : Keep T base w w') (hT : e ≠ T) : Room base e w' v xs := by
  rcases h.is with h | ⟨h, h2⟩
  · exact ⟨.inl (own_same h fun b hb _ => by
      obtain ⟨_, _, cur, hc⟩ := own_type h b hb
      rw [hc]; exact hk.typ _ _ _ _ hT hc)⟩
  · exact ⟨.inr ⟨h.below hk.low, h2⟩⟩

/-- append onto a row that came in and has no room: a new row, also where it is nearly as long as memory bears. -/
theorem append_bare {P : Program} (w : World) (t ty e : TypeId) (i : TypeInfo) (z : Value) (size bytes : Nat) (ht : P.underlying t = some (.slice e)) (hi : P.info? e = some i) (hz : i.zero = some z) (hs : i.size = size) (hby : i.bytes = bytes) (hzs : z.cells.size = size) (_ : 0 < size)
    (b : Addr) (n cap : Nat) (xs : List Value) (hx : xs.length = n * size) (hxs : ∀ j u, xs[j]? = some u → w.cell? (b.add j) = some u)
    (a : Addr) (m c : Nat) (ys : List Value) (hy : ys.length = m * size) (hys : ∀ j u, ys[j]? = some u → w.cell? (a.add j) = some u) (hc : cap < n + m) (hm : n + m ≤ maxLen) (hb : ((n + m) + (n + m) / 4 + 192) * bytes ≤ 281474976710656) :
    ∃ v' w', (Builtin.append_ #[t, t] ty #[.slice (some b) n cap, .slice (some a) m c]).run P w = .ok v' w' ∧ w'.ownsRow w.heap.size e size v' (n + m) (xs ++ ys) ∧ w.grownBy w' none := by
  subst hs
  subst hby
  have hr := run_append_grow (P := P) w t ty e i z ht hi hz b n cap xs hx hxs a m c ys hy hys hc (by unfold maxLen at hm; omega) (growslice_fits_wide hc hb)
  have h1 := grownCap_ge w (n + m) cap e
  have h2 := grownCap_le_maxLen w (n + m) cap e hm
  have h3 : (xs ++ ys).length = (n + m) * i.size := by rw [List.length_append, hx, hy, Nat.add_mul]
  refine ⟨_, _, hr, ⟨h3, .inr ⟨w.heap.size, _, _, rfl, Nat.le_refl _, heap_alloc_new w.drew _, h1, h2, ?_, ?_⟩⟩, rfl, rfl, rfl, by simp, fun _ hk _ => heap_alloc_old w.drew _ hk⟩
  · rw [Array.size_append, Array.size_append, List.size_toArray, List.size_toArray, size_zeroCells, hzs, hx, hy, ← Nat.add_mul, ← Nat.add_mul]
    congr 1
    omega
  · rw [Array.toList_append, Array.toList_append, ← h3]
    exact List.take_left
/-- append: what comes out, and what stays. -/
theorem run_append_rows {w : World} (t ty e : TypeId) (i : TypeInfo) (z : Value) (bytes : Nat) (ht : Try.prog.underlying t = some (.slice e)) (hi : Try.prog.info? e = some i) (hz : i.zero = some z) (hs : i.size = 1) (hby : i.bytes = bytes) (hzs : z.cells.size = 1)
    {base : Nat} {v u : Value} {xs ys : List Value} (hv : Room base e w v xs) (hu : CellsAt w.heap.size w u ys) (h1 : ∀ x ∈ ys, x.oneCell' = true) (hlen : xs.length + ys.length ≤ maxLen) (hbytes : ((xs.length + ys.length) + (xs.length + ys.length) / 4 + 192) * bytes ≤ 281474976710656) (hb : base ≤ w.heap.size) :
    ∃ v' w', (Builtin.append_ #[t, t] ty #[v, u]).run Try.prog w = .ok v' w' ∧ Room base e w' v' (xs ++ ys) ∧ Keep e base w w' ∧ (ys ≠ [] ∨ w.ownsRow base e 1 v xs.length xs → w'.ownsRow base e 1 v' (xs ++ ys).length (xs ++ ys)) := by
  obtain ⟨ao, c, rfl, hc, hn, hcell⟩ := hu.is
  rcases hv.is with ho | ⟨hcl, ad, rfl⟩
  · cases ao with
    | none =>
      have h0 : ys = [] := by
        cases ys with
        | nil => rfl
        | cons b r => obtain ⟨_, _, e, _⟩ := hcell 0 b rfl; cases e
      subst h0
      obtain rfl := hn rfl
      exact ⟨v, w, run_append_owned_none (P := Try.prog) (w := w) base t ty e i 1 ht hi _ _ _ ho, ⟨.inl (by rw [List.append_nil]; exact ho)⟩, Keep.refl _ _ _, fun _ => by rw [List.append_nil]; exact ho⟩
    | some a =>
      obtain ⟨v', w', hr, h2, h3, _⟩ := run_append_own_wide (P := Try.prog) w base t ty e i z 1 bytes ht hi hz hs hby hzs (by decide) v xs.length xs ho a ys.length c ys (by simp) (fun j u hj => by
        obtain ⟨g, off, e1, _, h⟩ := hcell j u hj
        cases e1
        rw [add_at]; exact h) h1 hlen hbytes hb
      exact ⟨v', w', hr, ⟨.inl (by rw [List.length_append]; exact h2)⟩, Keep.grown ho h3 hb, fun _ => by rw [List.length_append]; exact h2⟩
  · by_cases hy : ys = []
    · subst hy
      refine ⟨_, w, run_append_nothing w t ty e i ht hi ad xs.length xs.length (Nat.le_refl _) _ ?_, ⟨.inr ⟨by rw [List.append_nil]; exact hcl, ad, by rw [List.append_nil]⟩⟩, Keep.refl _ _ _, fun h => by rcases h with h | h; exact absurd rfl h; (rw [List.append_nil]; exact h)⟩
      cases ao with
      | none => obtain rfl := hn rfl; exact .inl rfl
      | some a => exact .inr ⟨a, c, rfl⟩
    · obtain ⟨y, hy0⟩ : ∃ y, ys[0]? = some y := by
        cases ys with
        | nil => exact absurd rfl hy
        | cons a r => exact ⟨a, rfl⟩
      obtain ⟨g, off, rfl, _, _⟩ := hcell 0 y hy0
      have hpos : 0 < ys.length := by
        cases ys with
        | nil => exact absurd rfl hy
        | cons a r => simp
      obtain ⟨v', w', hr, h2, h3⟩ := append_bare (P := Try.prog) w t ty e i z 1 bytes ht hi hz hs hby hzs (by decide) ad xs.length xs.length xs (by simp) (fun j u hj => by
        obtain ⟨a', c', e1, _, _, hcl'⟩ := hcl.is
        cases e1
        obtain ⟨g', off', e2, _, h⟩ := hcl' j u hj
        cases e2
        rw [add_at]; exact h) ⟨g, off, none⟩ ys.length c ys (by simp) (fun j u hj => by
        obtain ⟨g', off', e1, _, h⟩ := hcell j u hj
        cases e1
        rw [add_at]; exact h) (by omega) hlen hbytes
      refine ⟨v', w', hr, ⟨.inl (by rw [List.length_append]; exact own_mono h2 hb)⟩, ?_, fun _ => by rw [List.length_append]; exact own_mono h2 hb⟩
      exact Keep.of ((Below.refl _ _).grown h3 (Nat.le_refl _) fun k h => by cases h) hb
/-- append as a step of a region that draws its order. -/
theorem step_append_rows {w : World} {ops : Array Oper} {o : Oper} {a : Act} {K : Act → World → Prop} {Q : Exit → Act → World → Prop} {E : Prop} (hgd : o.guard = none) (s x : Operand) (t : TypeId)
    (ho : o.op = .call { callee := .builtin .append, args := #[s, x], argTypes := #[t, t] }) (e : TypeId) (i : TypeInfo) (z : Value) (bytes : Nat) (ht : Try.prog.underlying t = some (.slice e)) (hi : Try.prog.info? e = some i) (hz : i.zero = some z) (hs : i.size = 1) (hby : i.bytes = bytes) (hzs : z.cells.size = 1)
    (base : Nat) (v u : Value) (xs ys : List Value) (hsv : a.eval s = v) (hv : Room base e w v xs) (hxu : a.eval x = u) (hu : CellsAt w.heap.size w u ys) (h1 : ∀ x ∈ ys, x.oneCell' = true) (hlen : xs.length + ys.length ≤ maxLen) (hbytes : ((xs.length + ys.length) + (xs.length + ys.length) / 4 + 192) * bytes ≤ 281474976710656) (hb : base ≤ w.heap.size)
    (h : ∀ v' w', Room base e w' v' (xs ++ ys) → Keep e base w w' → (ys ≠ [] ∨ w.ownsRow base e 1 v xs.length xs → w'.ownsRow base e 1 v' (xs ++ ys).length (xs ++ ys)) → K (a.put o.dst v') w') :
    if Region.wanted o (yielded ops a.tmps) = true then Oper.wp Try.prog o a w K Q else E := by
  have hw : Region.wanted o (yielded ops a.tmps) = true := by simp [Region.wanted, hgd]
  rw [if_pos hw]
  obtain ⟨v', w', hr, h2, h3, h4⟩ := run_append_rows t o.type e i z bytes ht hi hz hs hby hzs hv hu h1 hlen hbytes hb
  unfold Oper.wp
  simp [execOp, ho, resolve, invoke, builtin, hsv, hxu, hr, Result.andThen]
  exact h v' w' h2 h3 h4
/-- A call whose answer is new, as a step of a region that draws its order. -/
theorem step_call_new {w : World} {ops : Array Oper} {o : Oper} {a : Act} {K : Act → World → Prop} {Q : Exit → Act → World → Prop} {E : Prop} (hgd : o.guard = none) (N : Nat) (hE : Go.Proofs.Enters Try.prog N) (x : Operand) (t : TypeId)
    (ho : o.op = .call { callee := .value (.func N), args := #[x], argTypes := #[t] }) (v : Value) (R : Value → World → Prop) (hx : a.eval x = v) (hc : Calls Try.prog N #[v] w fun r w' => ∃ u, r = .returned u ∧ R u w') (h : ∀ u w', R u w' → K (a.put o.dst u) w') :
    if Region.wanted o (yielded ops a.tmps) = true then Oper.wp Try.prog o a w K Q else E := by
  have hw : Region.wanted o (yielded ops a.tmps) = true := by simp [Region.wanted, hgd]
  rw [if_pos hw]
  unfold Oper.wp
  simp [execOp, ho, resolve, invoke, Deferred.ofValue, hx, eval_func, hE #[v] w]
  show Calls Try.prog N _ w _
  refine hc.mono ?_
  rintro r w' ⟨u, rfl, hr⟩
  exact h u w' hr
end Go.Proofs.Ytaehchijeinloaa
