/- The document's list of lives; appends of whole rows. -/
import Derived.Test.YtcfmcakdgamdmaaReads
import Derived.Test.YtcfmcakdgamdmaaPut
namespace Go.Proofs.Ytcfmcakdgamdmaa
open Go.RowKit

theorem wpList_append_lives {w : World} {ops : Array Oper} {rest : List Oper} {o : Oper} {a : Act} {Q : Exit → Act → World → Prop} (hgd : o.guard = none) (s x : Operand)
    (ho : o.op = .call { callee := .builtin .append, args := #[s, x], argTypes := #[39, 39] }) (base : Nat)
    (v : Value) (L : List Lf) (hs : a.eval s = v) (hv : NewL base w v L) (u : Value) (M : List Lf) (hx : a.eval x = u) (hu : LivesAt w u M)
    (hlen : (L.length + M.length) * 24 ≤ 140737488355328) (hbase : base ≤ w.heap.size)
    (h : ∀ v' w', NewL base w' v' (L ++ M) → w.grownBy w' v.ownBlock → Keep 34 base w w' → wpList Try.prog ops Q rest (a.put o.dst v') w') : wpList Try.prog ops Q (o :: rest) a w := by
  obtain ⟨i0, hi, hz0, hz1, hz2⟩ := infoL'
  obtain ⟨⟨ao, c, rfl, hc, hn, hcell⟩, hl⟩ := hu
  cases ao with
  | none =>
    have h0 : M = [] := by
      have := hn rfl
      exact List.eq_nil_of_length_eq_zero (by omega)
    subst h0
    obtain rfl := hn rfl
    refine wpList_append_own_none hgd s x 39 ho base 34 i0 3 Try.underlying39 hi _ _ _ hs hv hx ?_
    exact h v w (by rw [List.append_nil]; exact hv) ⟨rfl, rfl, rfl, Nat.le_refl _, fun _ _ _ => rfl⟩ (Keep.refl _ _ _)
  | some ad =>
    refine wpList_append_own w hgd s x 39 ho base 34 i0 _ 3 24 Try.underlying39 hi hz0 hz1 hz2 rfl (by decide) _ _ _ hs hv ad M.length c (flatL M) hx hl ?_ (flatL_one _) (by unfold maxLen; omega) (by omega) hbase ?_
    · intro j y hj
      obtain ⟨g, off, e, _, hc'⟩ := hcell j y hj
      cases e
      rw [add_at]
      exact hc'
    · intro v' w' hown hgr _
      refine h v' w' ?_ hgr (Keep.grown hv hgr hbase)
      show w'.ownsRow base 34 3 v' (L ++ M).length (flatL (L ++ M))
      rw [List.length_append, flatL_append]
      exact hown
theorem wpList_append_nums {w : World} {ops : Array Oper} {rest : List Oper} {o : Oper} {a : Act} {Q : Exit → Act → World → Prop} (hgd : o.guard = none) (s x : Operand)
    (ho : o.op = .call { callee := .builtin .append, args := #[s, x], argTypes := #[47, 47] }) (base : Nat)
    (v : Value) (L : List Int) (hs : a.eval s = v) (hv : NewI base w v L) (u : Value) (M : List Int) (hx : a.eval x = u) (hu : IntsAt w u M)
    (hlen : (L.length + M.length) * 8 ≤ 140737488355328) (hbase : base ≤ w.heap.size)
    (h : ∀ v' w', NewI base w' v' (L ++ M) → w.grownBy w' v.ownBlock → Keep 3 base w w' → wpList Try.prog ops Q rest (a.put o.dst v') w') : wpList Try.prog ops Q (o :: rest) a w := by
  obtain ⟨i0, hi, hz0, hz1, hz2⟩ := infoI'
  obtain ⟨⟨ao, c, rfl, hc, hn, hcell⟩, hl⟩ := hu
  cases ao with
  | none =>
    have h0 : M = [] := by
      have := hn rfl
      exact List.eq_nil_of_length_eq_zero (by omega)
    subst h0
    obtain rfl := hn rfl
    refine wpList_append_own_none hgd s x 47 ho base 3 i0 1 Try.underlying47 hi _ _ _ hs hv hx ?_
    exact h v w (by rw [List.append_nil]; exact hv) ⟨rfl, rfl, rfl, Nat.le_refl _, fun _ _ _ => rfl⟩ (Keep.refl _ _ _)
  | some ad =>
    refine wpList_append_own w hgd s x 47 ho base 3 i0 _ 1 8 Try.underlying47 hi hz0 hz1 hz2 rfl (by decide) _ _ _ hs hv ad M.length c (M.map encI) hx hl ?_ (fun y hy => by obtain ⟨_, _, rfl⟩ := List.mem_map.1 hy; rfl) (by unfold maxLen; omega) (by omega) hbase ?_
    · intro j y hj
      obtain ⟨g, off, e, _, hc'⟩ := hcell j y hj
      cases e
      rw [add_at]
      exact hc'
    · intro v' w' hown hgr _
      refine h v' w' ?_ hgr (Keep.grown hv hgr hbase)
      show w'.ownsRow base 3 1 v' (L ++ M).length ((L ++ M).map encI)
      rw [List.length_append, List.map_append]
      exact hown
theorem LivesAt.take {w : World} {L : List Lf} {a : Option Addr} {c : Nat} (h : LivesAt w (.slice a L.length c) L) (k : Nat) (hk : k ≤ L.length) : LivesAt w (.slice a k c) (L.take k) := by
  obtain ⟨⟨a0, c0, e, h1, h2, h3⟩, _⟩ := h
  cases e
  have hl : (L.take k).length = k := by rw [List.length_take]; omega
  refine ⟨⟨a, c, by rw [hl], by rw [hl]; omega, h2, fun j u hj => ?_⟩, flatL_length _⟩
  rw [flatL_take, List.getElem?_take] at hj
  split at hj
  · exact h3 j u hj
  · cases hj
theorem LivesAt.drop {w : World} {L : List Lf} {a a' : Option Addr} {c c' k n : Nat} (h : LivesAt w (.slice a L.length c) L) (hn : n = L.length - k) (hk : k ≤ L.length) (ha : ∀ g off, a = some ⟨g, off, none⟩ → k < L.length → a' = some ⟨g, off + k * 3, none⟩) (hc : n ≤ c') (h0 : a' = none → c' = 0) : LivesAt w (.slice a' n c') (L.drop k) := by
  obtain ⟨⟨a0, c0, e, h1, h2, h3⟩, _⟩ := h
  cases e
  have hl : (L.drop k).length = n := by rw [List.length_drop, hn]
  refine ⟨⟨a', c', by rw [hl], by rw [hl]; exact hc, h0, fun j u hj => ?_⟩, flatL_length _⟩
  rw [flatL_drop, List.getElem?_drop] at hj
  obtain ⟨g, off, e1, e2, e3⟩ := h3 _ _ hj
  have hl := (List.getElem?_eq_some_iff.1 hj).1
  rw [flatL_length] at hl
  exact ⟨g, off + k * 3, ha g off e1 (by omega), e2, by rw [Nat.add_assoc]; exact e3⟩
/-- The document's list at block b. -/
structure RefAt (B : Nat) (w : World) (b : Nat) (v : Value) (L : List Lf) : Prop where
  cells : w.heap[b]? = some (.cells #[v] 73 (0, 0))
  row : NewL B w v L
  low : B ≤ b
theorem RefAt.lt {B : Nat} {w : World} {b : Nat} {v : Value} {L : List Lf} (h : RefAt B w b v L) : b < w.heap.size := (Array.getElem?_eq_some_iff.1 h.cells).1
theorem RefAt.cell {B : Nat} {w : World} {b : Nat} {v : Value} {L : List Lf} (h : RefAt B w b v L) : w.cell? ⟨b, 0, none⟩ = some v := by rw [row_cell h.cells]; rfl
theorem RefAt.below {B : Nat} {w w' : World} {b : Nat} {v : Value} {L : List Lf} (h : RefAt B w b v L) (hb : Below w.heap.size w w') : RefAt B w' b v L := ⟨by rw [hb.block b h.lt]; exact h.cells, own_here h.row hb, h.low⟩
theorem refNew_any (w : World) : Calls Try.prog 22 #[] w fun e w' => e = .returned (.pointer (some ⟨w.heap.size, 0, none⟩)) ∧ RefAt w.heap.size w' w.heap.size (.slice none 0 0) [] ∧ Below w.heap.size w w' ∧ w'.heap.size = w.heap.size + 1 := by
  go_enter Try.func22, Try.ntmps22
  go_wp2
  go_ret
  exact ⟨rfl, ⟨heap_alloc_last w _, World.ownsRow_nil _ _ _ _, Nat.le_refl _⟩, below_new w _, by simp⟩
theorem refCount_any {B : Nat} {w : World} {b : Nat} {v : Value} {L : List Lf} (h : RefAt B w b v L) : Calls Try.prog 29 #[.pointer (some ⟨b, 0, none⟩)] w fun e w' => e = .returned (.int .i64 (L.length : Int)) ∧ w' = w := by
  have c0 := h.cell
  obtain ⟨a, c, rfl⟩ := own_slice h.row
  clear h
  go_enter Try.func29, Try.ntmps29
  go_wp2
  go_ret
  exact ⟨rfl, rfl⟩
theorem refNeeds_any (w : World) (g : Int) (x : Lf) : Calls Try.prog 42 #[.int .u64 g, .agg #[.int .i64 x.p, .int .u64 x.b, .int .u64 x.d]] w fun e w' => e = .returned (.bool (needsL g x)) ∧ Below w.heap.size w w' := by
  unfold needsL
  by_cases h : x.b ≤ g
  · have e1 : decide (x.b ≤ g) = true := by simpa using h
    rw [e1, Bool.true_and]
    clear e1
    go_enter Try.func42, Try.ntmps42
    go_wp2
    go_ret
    exact ⟨rfl, below_new _ _⟩
  · have e1 : decide (x.b ≤ g) = false := by simpa using h
    rw [e1, Bool.false_and]
    clear e1
    go_enter Try.func42, Try.ntmps42
    go_wp2
    go_ret
    exact ⟨rfl, below_new _ _⟩
theorem refLess_any (w : World) (a x : Lf) : Calls Try.prog 40 #[.agg #[.int .i64 a.p, .int .u64 a.b, .int .u64 a.d], .agg #[.int .i64 x.p, .int .u64 x.b, .int .u64 x.d]] w fun e w' => e = .returned (.bool (decide (ltL a x))) ∧ Below w.heap.size w w' := by
  have HB : Hid (Below w.heap.size w ((w.alloc (.cells #[.int .i64 a.p, .int .u64 a.b, .int .u64 a.d] 34)).alloc (.cells #[.int .i64 x.p, .int .u64 x.b, .int .u64 x.d] 34))) := (below_new w _).alloc (by simp) _
  by_cases h : a.p = x.p
  · have h1 : (a.p != x.p) = false := by simp [h]
    have HE : Hid (decide (ltL a x) = decide (a.b < x.b)) := by
      show _ = _
      unfold ltL
      simp [h]
    rw [HE.out]
    clear h
    go_enter Try.func40, Try.ntmps40
    go_wp2
    go_ret
    exact ⟨rfl, HB.out⟩
  · have h1 : (a.p != x.p) = true := by simpa using h
    have HE : Hid (decide (ltL a x) = decide (a.p < x.p)) := by
      show _ = _
      unfold ltL
      simp [h]
    rw [HE.out]
    clear h
    go_enter Try.func40, Try.ntmps40
    go_wp2
    go_ret
    exact ⟨rfl, HB.out⟩
set_option maxHeartbeats 800000 in
set_option maxRecDepth 100000 in
theorem refLives_any {B : Nat} {w : World} {b : Nat} {v : Value} {L : List Lf} (h : RefAt B w b v L) (hsh : L.length * 24 ≤ 140737488355328) : Calls Try.prog 28 #[.pointer (some ⟨b, 0, none⟩)] w fun e w' => ∃ v', e = .returned v' ∧ NewL w.heap.size w' v' L ∧ Below w.heap.size w w' := by
  have c0 := h.cell
  have HL : Hid (LivesAt w v L) := RowAt.own h.row
  obtain ⟨a, c, rfl⟩ := own_slice h.row
  clear h
  go_enter Try.func28, Try.ntmps28
  go_wp2_with (first
    | (at_builtin
       refine wpList_append_lives rfl _ _ rfl w.heap.size (.slice none 0 0) [] rfl (World.ownsRow_nil _ _ _ _) (.slice a L.length c) L rfl HL.out (by simpa using hsh) (Nat.le_refl _) ?_
       intro v1 w1 hv1 _ hk1
       have HV1 : Hid (NewL w.heap.size w1 v1 L) := hv1
       have HK1 : Hid (Below w.heap.size w w1) := hk1.low
       clear hv1 hk1))
  go_ret
  exact ⟨_, rfl, HV1.out, HK1.out⟩
end Go.Proofs.Ytcfmcakdgamdmaa
