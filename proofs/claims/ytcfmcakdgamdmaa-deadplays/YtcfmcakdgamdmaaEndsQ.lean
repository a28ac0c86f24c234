/- ends: what its writes leave. -/
import Derived.Test.YtcfmcakdgamdmaaEndsP
namespace Go.Proofs.Ytcfmcakdgamdmaa
open Go.RowKit

theorem own_setN {w : World} {base e n m k g c : Nat} {xs : List Value} {j : Nat} {u : Value} (ho : w.ownsRow base e k (.slice (some ⟨g, 0, none⟩) n c) m xs) : (w.setCell ⟨g, j, none⟩ u).ownsRow base e k (.slice (some ⟨g, 0, none⟩) n c) m (xs.set j u) := by
  rcases own_row ho with ⟨e, _⟩ | ⟨_, _, e, _⟩
  · cases e
  · cases e
    exact own_setU ho
theorem own_some {w : World} {base e s n m c : Nat} {a : Option Addr} {xs : List Value} (h : w.ownsRow base e s (.slice a n c) m xs) (hm : 0 < m) : ∃ b, a = some ⟨b, 0, none⟩ ∧ ∀ (i : Nat) u, xs[i]? = some u → w.cell? ⟨b, i, none⟩ = some u := by
  rcases own_row h with ⟨_, e0⟩ | ⟨b, c', e1, _, _, hc⟩
  · omega
  · injection e1 with e1
    exact ⟨b, e1, hc⟩
theorem newI_set {w : World} {B n g c k : Nat} {ys : List Int} {z : Int} (h : NewI B w (.slice (some ⟨g, 0, none⟩) n c) ys) : NewI B (w.setCell ⟨g, k, none⟩ (.int .i64 z)) (.slice (some ⟨g, 0, none⟩) n c) (ys.set k z) := by
  have := own_setN (j := k) (u := .int .i64 z) h
  show World.ownsRow _ _ _ _ _ _ _
  rw [List.length_set, List.map_set]
  exact this
theorem flatL_set (ys : List Lf) (k : Nat) (y : Lf) : flatL (ys.set k y) = (((flatL ys).set (k * 3) (.int .i64 y.p)).set (k * 3 + 1) (.int .u64 y.b)).set (k * 3 + 2) (.int .u64 y.d) := by
  induction ys generalizing k with
  | nil => simp [flatL]
  | cons x ys ih =>
    cases k with
    | zero => simp [flatL_cons]
    | succ k =>
      rw [List.set_cons_succ, flatL_cons, flatL_cons, ih, show (k + 1) * 3 = k * 3 + 3 by omega]
      simp
theorem newL_set {w : World} {B n g c k : Nat} {ys : List Lf} {y : Lf} (h : NewL B w (.slice (some ⟨g, 0, none⟩) n c) ys) : NewL B (((w.setCell ⟨g, k * 3, none⟩ (.int .i64 y.p)).setCell ⟨g, k * 3 + 1, none⟩ (.int .u64 y.b)).setCell ⟨g, k * 3 + 2, none⟩ (.int .u64 y.d)) (.slice (some ⟨g, 0, none⟩) n c) (ys.set k y) := by
  have := own_setN (j := k * 3 + 2) (u := .int .u64 y.d) (own_setN (j := k * 3 + 1) (u := .int .u64 y.b) (own_setN (j := k * 3) (u := .int .i64 y.p) h))
  show World.ownsRow _ _ _ _ _ _ _
  rw [List.length_set, flatL_set]
  exact this
theorem newL_mark {w : World} {B n g c k : Nat} {ys : List Lf} {z : Int} (h : NewL B w (.slice (some ⟨g, 0, none⟩) n c) ys) : NewL B (((w.setCell ⟨g, k * 3, none⟩ (.int .i64 z)).setCell ⟨g, k * 3 + 1, none⟩ (.int .u64 0)).setCell ⟨g, k * 3 + 2, none⟩ (.int .u64 0)) (.slice (some ⟨g, 0, none⟩) n c) (ys.set k ⟨z, 0, 0⟩) := newL_set (y := ⟨z, 0, 0⟩) h
section
variable {B : Nat} {w w' : World} {W : Nat} {vl vr vp vq vx vy : Value} {c : Int} {N M : Nat} {f g : Nat → Value × List Int} {s t : Nat → Value × List Lf}
/-- What stays while lists are written. -/
theorem En.far {S : Nat → Prop} (h : En B w W vl vr vp vq vx vy c N M f g s t) (hk : Kept S w w') (hS : ∀ k, S k → ∃ cur t, w.heap[k]? = some (.cells cur t (0, 0)) ∧ (t = 3 ∨ t = 34)) : w'.heap[W]? = some (.cells #[vl, vr, vp, vq, vx, vy, .int .i64 c] 30 (0, 0)) ∧ w'.ownsRow B 47 1 vp N (pl N f) ∧ w'.ownsRow B 47 1 vq N (pl N g) ∧ w'.ownsRow B 39 1 vx M (pl M s) ∧ w'.ownsRow B 39 1 vy M (pl M t) := by
  have no : ∀ (T' : TypeId) (v : Value) (z j : Nat) (xs : List Value), T' ≠ 3 → T' ≠ 34 → w.ownsRow B T' z v j xs → w'.ownsRow B T' z v j xs := fun T' v z j xs h1 h2 hr => own_kept hr hk fun k hk' e => by
    obtain ⟨_, _, cur, hc⟩ := own_type hr k hk'
    obtain ⟨cur', t', hc', ht⟩ := hS k e
    have := tag_eq hc hc'
    rcases ht with ht | ht
    · exact h1 (this.trans ht)
    · exact h2 (this.trans ht)
  refine ⟨(hk.block W (Array.getElem?_eq_some_iff.1 h.head).1 fun e => ?_).trans h.head, no _ _ _ _ _ (by decide) (by decide) h.rp, no _ _ _ _ _ (by decide) (by decide) h.rq, no _ _ _ _ _ (by decide) (by decide) h.rx, no _ _ _ _ _ (by decide) (by decide) h.ry⟩
  obtain ⟨cur', t', hc', ht⟩ := hS W e
  have := tag_eq h.head hc'
  rcases ht with ht | ht
  · exact absurd (this.trans ht) (by decide)
  · exact absurd (this.trans ht) (by decide)
end
/-- Onto a new, empty row, as a step of a region that draws its order. -/
theorem step_copyI {w : World} {ops : Array Oper} {o : Oper} {a : Act} {K : Act → World → Prop} {Q : Exit → Act → World → Prop} {E : Prop} (hgd : o.guard = none) (s x : Operand)
    (ho : o.op = .call { callee := .builtin .append, args := #[s, x], argTypes := #[47, 47] }) (base : Nat)
    (g : Nat) (hs : a.eval s = .slice (some ⟨g, 0, none⟩) 0 0) (hown : w.ownsRow base 3 1 (.slice (some ⟨g, 0, none⟩) 0 0) 0 [])
    (lv : Value) (xs : List Int) (hx : a.eval x = lv) (hb : IntsAt w lv xs) (hlen : xs.length * 8 ≤ 140737488355328) (hbase : base ≤ w.heap.size)
    (h : ∀ ad n c w', n = xs.length → NewI base w' (.slice ad n c) xs → w.grownBy w' (some g) → K (a.put o.dst (.slice ad n c)) w') :
    if Region.wanted o (yielded ops a.tmps) = true then Oper.wp Try.prog o a w K Q else E := by
  have hw : Region.wanted o (yielded ops a.tmps) = true := by simp [Region.wanted, hgd]
  rw [if_pos hw]
  obtain ⟨i0, hi, hz0, hz1, hz2⟩ := infoI'
  obtain ⟨⟨ao, c, rfl, hc, hn, hcell⟩, hl⟩ := hb
  cases ao with
  | none =>
    obtain rfl := hn rfl
    have h0 : xs = [] := List.eq_nil_of_length_eq_zero (by simpa using hc)
    subst h0
    have hrun := run_append_owned_none (P := Try.prog) (w := w) base 47 o.type 3 i0 1 Try.underlying47 hi _ 0 _ hown
    have hx' : a.eval x = .slice none 0 0 := hx
    have := h (some ⟨g, 0, none⟩) 0 0 w rfl hown ⟨rfl, rfl, rfl, Nat.le_refl _, fun _ _ _ => rfl⟩
    unfold Oper.wp
    simp [execOp, ho, resolve, invoke, builtin, hs, hx', hrun, Result.andThen]
    exact this
  | some ad =>
    refine wp_append_own w s x 47 ho base 3 i0 (.int .i64 0) 1 8 Try.underlying47 hi hz0 hz1 hz2 rfl (by decide) _ 0 _ hs hown ad xs.length c (xs.map encI) hx (by simp) ?_ (fun u hu => by obtain ⟨p, _, rfl⟩ := List.mem_map.1 hu; rfl) (by unfold maxLen; omega) (by omega) hbase ?_
    · intro j u hj
      obtain ⟨g', off, e1, _, hc'⟩ := hcell j u hj
      cases e1
      rw [add_at]
      exact hc'
    · intro v' w' h1 h2 _
      simp only [Nat.zero_add, List.nil_append] at h1
      obtain ⟨ad', c', rfl⟩ := own_slice h1
      exact h ad' _ c' w' rfl h1 h2
/-- One more at the end. -/
theorem append_oneI {w : World} {ops : Array Oper} {rest : List Oper} {o : Oper} {a : Act} {Q : Exit → Act → World → Prop} (hgd : o.guard = none) (s x : Operand)
    (ho : o.op = .call { callee := .builtin .append, args := #[s, x], argTypes := #[47, 47] }) (base : Nat)
    (v : Value) (ys : List Int) (y : Int) (hs : a.eval s = v) (hown : NewI base w v ys) (hx : a.eval x = .slice (some ⟨w.heap.size, 0, none⟩) 1 1) (hlen : (ys.length + 1) * 8 ≤ 140737488355328) (hbase : base ≤ w.heap.size)
    (h : ∀ v' w', NewI base w' v' (ys ++ [y]) → Kept (fun k => v.ownBlock = some k) w w' → (∀ j, v'.ownBlock = some j → v.ownBlock = some j ∨ w.heap.size ≤ j) → wpList Try.prog ops Q rest (a.put o.dst v') w') : wpList Try.prog ops Q (o :: rest) a (w.alloc (.cells #[.int .i64 y] 3)) := by
  obtain ⟨i0, hi, hz0, hz1, hz2⟩ := infoI'
  refine wpList_append_lies _ hgd s x 47 ho base 3 i0 _ 1 8 Try.underlying47 hi hz0 hz1 hz2 rfl (by decide) v ys.length _ hs (own_here hown (below_new _ _)) ⟨w.heap.size, 0, none⟩ 1 1 [.int .i64 y] hx rfl ?_ (fun u hu => by simp at hu; subst hu; rfl) (by decide) (by unfold maxLen; omega) (by omega) (Nat.le_trans hbase (below_new w _).size) _ rfl ?_
  · intro j u hj
    rw [add_at, Nat.zero_add, row_cell (heap_alloc_last w _), ← Array.getElem?_toList]
    exact hj
  · intro g cap w' ho hg hat hlt
    refine h _ w' ?_ ((Kept.of_below (below_new w _)).trans (Kept.of_grown (S := fun k => v.ownBlock = some k) hg (fun _ e => e)) (fun _ _ e => e)) (fun j hj => by cases hj; exact hat.imp id fun e => by simp at e; show w.heap.size ≤ g; omega)
    show World.ownsRow _ _ _ _ _ _ _
    rw [List.length_append, List.map_append]
    exact ho
theorem En.nextI {B : Nat} {w w2 w4 : World} {W gq cq n : Nat} {vl vr vp  vx vy u v' : Value} {c : Int} {N M : Nat} {f g : Nat → Value × List Int} {s t : Nat → Value × List Lf} {ys : List Int} (h : En B w W vl vr vp (.slice (some ⟨gq, 0, none⟩) N cq) vx vy c N M f g s t) (hn : n < N)
    (hk2 : Kept (fun k => (f n).1.ownBlock = some k ∨ vp.ownBlock = some k) w w2) (hp2 : w2.ownsRow B 47 1 vp N (pl N (at_ f n (v', ys)))) (hv2 : NewI B w2 v' ys) (hvb : ∀ k, v'.ownBlock = some k → (f n).1.ownBlock = some k ∨ w.heap.size ≤ k)
    (hb4 : Below w2.heap.size w2 w4) (hu : NewI w2.heap.size w4 u ys) : En B (w4.setCell ⟨gq, n, none⟩ u) W vl vr vp (.slice (some ⟨gq, 0, none⟩) N cq) vx vy c N M (at_ f n (v', ys)) (at_ g n (u, ys)) s t ∧ Below B w (w4.setCell ⟨gq, n, none⟩ u) := by
  have hq := h.rq
  obtain ⟨hql, hqB, curq, hqc⟩ := own_type hq gq rfl
  have noq : ∀ k, (Value.slice (some ⟨gq, 0, none⟩) N cq).ownBlock = some k → ¬ ((f n).1.ownBlock = some k ∨ vp.ownBlock = some k) := fun k hk e => by
    rcases e with e | e
    · obtain ⟨_, _, cur, hc⟩ := own_type hq k hk
      obtain ⟨_, _, cur', hc'⟩ := own_type (h.ip n hn) k e
      exact absurd (tag_eq hc hc') (by decide)
    · exact h.dp k e hk
  have hq2 := own_kept hq hk2 noq
  obtain ⟨hql2, _, curq2, hqc2⟩ := own_type hq2 gq rfl
  have hq4 := own_here hq2 hb4
  have hk : Kept (fun k => (f n).1.ownBlock = some k ∨ vp.ownBlock = some k ∨ (Value.slice (some ⟨gq, 0, none⟩) N cq).ownBlock = some k) w (w4.setCell ⟨gq, n, none⟩ u) :=
    ((hk2.mono fun _ _ e => e.imp id .inl).trans (Kept.of_below (S := fun _ => False) hb4) (fun _ _ e => e.elim)).trans (setCell_kept _) (fun i _ e => by rw [e]; exact .inr (.inr rfl))
  have hB2 : B ≤ w2.heap.size := Nat.le_trans h.hB hk2.size
  refine ⟨h.turn_p hn hk (own_kept (own_here hp2 hb4) (setCell_kept _) fun b hb e => h.dp b hb (by rw [e]; rfl)) ?_ (own_kept (own_here hv2 hb4) (setCell_kept _) fun b hb e => ?_) (own_mono (own_kept hu (setCell_kept _) fun b hb e => ?_) hB2) hvb (fun k hk' => ?_) (fun k h1 h2 => ?_), ?_⟩
  · have := own_setN (j := n) (u := u) hq4
    rw [pl_set (x := ys) hn] at this
    exact this
  · rw [e] at hb
    obtain ⟨_, _, cur, hc⟩ := own_type hv2 gq hb
    exact absurd (tag_eq hc hqc2) (by decide)
  · rw [e] at hb
    have := (own_type hu gq hb).2.1
    omega
  · have h1 := (own_type hu k hk').2.1
    have h2 := hk2.size
    omega
  · have h3 := (own_type hv2 k h1).1
    have h4 := (own_type hu k h2).2.1
    omega
  · refine Kept.below (Below.refl _ _) hk h.hB fun k e => ?_
    rcases e with e | e | e
    · exact (own_type (h.ip n hn) k e).2.1
    · exact (own_type h.rp k e).2.1
    · exact (own_type hq k e).2.1
/-- Onto a new, empty row, as a step of a region that draws its order. -/
theorem step_copyL {w : World} {ops : Array Oper} {o : Oper} {a : Act} {K : Act → World → Prop} {Q : Exit → Act → World → Prop} {E : Prop} (hgd : o.guard = none) (s x : Operand)
    (ho : o.op = .call { callee := .builtin .append, args := #[s, x], argTypes := #[39, 39] }) (base : Nat)
    (g : Nat) (hs : a.eval s = .slice (some ⟨g, 0, none⟩) 0 0) (hown : w.ownsRow base 34 3 (.slice (some ⟨g, 0, none⟩) 0 0) 0 [])
    (lv : Value) (xs : List Lf) (hx : a.eval x = lv) (hb : LivesAt w lv xs) (hlen : xs.length * 24 ≤ 140737488355328) (hbase : base ≤ w.heap.size)
    (h : ∀ ad n c w', n = xs.length → NewL base w' (.slice ad n c) xs → w.grownBy w' (some g) → K (a.put o.dst (.slice ad n c)) w') :
    if Region.wanted o (yielded ops a.tmps) = true then Oper.wp Try.prog o a w K Q else E := by
  have hw : Region.wanted o (yielded ops a.tmps) = true := by simp [Region.wanted, hgd]
  rw [if_pos hw]
  obtain ⟨i0, hi, hz0, hz1, hz2⟩ := infoL'
  obtain ⟨⟨ao, c, rfl, hc, hn, hcell⟩, hl⟩ := hb
  cases ao with
  | none =>
    obtain rfl := hn rfl
    have h0 : xs = [] := List.eq_nil_of_length_eq_zero (by simpa using hc)
    subst h0
    have hrun := run_append_owned_none (P := Try.prog) (w := w) base 39 o.type 34 i0 3 Try.underlying39 hi _ 0 _ hown
    have hx' : a.eval x = .slice none 0 0 := hx
    have := h (some ⟨g, 0, none⟩) 0 0 w rfl hown ⟨rfl, rfl, rfl, Nat.le_refl _, fun _ _ _ => rfl⟩
    unfold Oper.wp
    simp [execOp, ho, resolve, invoke, builtin, hs, hx', hrun, Result.andThen]
    exact this
  | some ad =>
    refine wp_append_own w s x 39 ho base 34 i0 (.agg #[.int .i64 0, .int .u64 0, .int .u64 0]) 3 24 Try.underlying39 hi hz0 hz1 hz2 rfl (by decide) _ 0 _ hs hown ad xs.length c (flatL xs) hx hl ?_ (flatL_one _) (by unfold maxLen; omega) (by omega) hbase ?_
    · intro j u hj
      obtain ⟨g', off, e1, _, hc'⟩ := hcell j u hj
      cases e1
      rw [add_at]
      exact hc'
    · intro v' w' h1 h2 _
      simp only [Nat.zero_add, List.nil_append] at h1
      obtain ⟨ad', c', rfl⟩ := own_slice h1
      exact h ad' _ c' w' rfl h1 h2
/-- One more at the end. -/
theorem append_oneL {w : World} {ops : Array Oper} {rest : List Oper} {o : Oper} {a : Act} {Q : Exit → Act → World → Prop} (hgd : o.guard = none) (s x : Operand)
    (ho : o.op = .call { callee := .builtin .append, args := #[s, x], argTypes := #[39, 39] }) (base : Nat)
    (v : Value) (ys : List Lf) (y : Lf) (hs : a.eval s = v) (hown : NewL base w v ys) (hx : a.eval x = .slice (some ⟨w.heap.size, 0, none⟩) 1 1) (hlen : (ys.length + 1) * 24 ≤ 140737488355328) (hbase : base ≤ w.heap.size)
    (h : ∀ v' w', NewL base w' v' (ys ++ [y]) → Kept (fun k => v.ownBlock = some k) w w' → (∀ j, v'.ownBlock = some j → v.ownBlock = some j ∨ w.heap.size ≤ j) → wpList Try.prog ops Q rest (a.put o.dst v') w') : wpList Try.prog ops Q (o :: rest) a (w.alloc (.cells #[.int .i64 y.p, .int .u64 y.b, .int .u64 y.d] 34)) := by
  obtain ⟨i0, hi, hz0, hz1, hz2⟩ := infoL'
  refine wpList_append_lies _ hgd s x 39 ho base 34 i0 _ 3 24 Try.underlying39 hi hz0 hz1 hz2 rfl (by decide) v ys.length _ hs (own_here hown (below_new _ _)) ⟨w.heap.size, 0, none⟩ 1 1 [.int .i64 y.p, .int .u64 y.b, .int .u64 y.d] hx (flatL_length [y]) ?_ (flatL_one [y]) (by decide) (by unfold maxLen; omega) (by omega) (Nat.le_trans hbase (below_new w _).size) _ rfl ?_
  · intro j u hj
    rw [add_at, Nat.zero_add, row_cell (heap_alloc_last w _), ← Array.getElem?_toList]
    exact hj
  · intro g cap w' ho hg hat hlt
    refine h _ w' ?_ ((Kept.of_below (below_new w _)).trans (Kept.of_grown (S := fun k => v.ownBlock = some k) hg (fun _ e => e)) (fun _ _ e => e)) (fun j hj => by cases hj; exact hat.imp id fun e => by simp at e; show w.heap.size ≤ g; omega)
    show World.ownsRow _ _ _ _ _ _ _
    rw [List.length_append, flatL_append]
    exact ho
theorem En.nextL {B : Nat} {w w2 w4 : World} {W gq cq n : Nat} {vl vr vp vq vx  u v' : Value} {c : Int} {N M : Nat} {f g : Nat → Value × List Int} {s t : Nat → Value × List Lf} {ys : List Lf} (h : En B w W vl vr vp vq vx (.slice (some ⟨gq, 0, none⟩) M cq) c N M f g s t) (hn : n < M)
    (hk2 : Kept (fun k => (s n).1.ownBlock = some k ∨ vx.ownBlock = some k) w w2) (hp2 : w2.ownsRow B 39 1 vx M (pl M (at_ s n (v', ys)))) (hv2 : NewL B w2 v' ys) (hvb : ∀ k, v'.ownBlock = some k → (s n).1.ownBlock = some k ∨ w.heap.size ≤ k)
    (hb4 : Below w2.heap.size w2 w4) (hu : NewL w2.heap.size w4 u ys) : En B (w4.setCell ⟨gq, n, none⟩ u) W vl vr vp vq vx (.slice (some ⟨gq, 0, none⟩) M cq) c N M f g (at_ s n (v', ys)) (at_ t n (u, ys)) ∧ Below B w (w4.setCell ⟨gq, n, none⟩ u) := by
  have hq := h.ry
  obtain ⟨hql, hqB, curq, hqc⟩ := own_type hq gq rfl
  have noq : ∀ k, (Value.slice (some ⟨gq, 0, none⟩) M cq).ownBlock = some k → ¬ ((s n).1.ownBlock = some k ∨ vx.ownBlock = some k) := fun k hk e => by
    rcases e with e | e
    · obtain ⟨_, _, cur, hc⟩ := own_type hq k hk
      obtain ⟨_, _, cur', hc'⟩ := own_type (h.ix n hn) k e
      exact absurd (tag_eq hc hc') (by decide)
    · exact h.dx k e hk
  have hq2 := own_kept hq hk2 noq
  obtain ⟨hql2, _, curq2, hqc2⟩ := own_type hq2 gq rfl
  have hq4 := own_here hq2 hb4
  have hk : Kept (fun k => (s n).1.ownBlock = some k ∨ vx.ownBlock = some k ∨ (Value.slice (some ⟨gq, 0, none⟩) M cq).ownBlock = some k) w (w4.setCell ⟨gq, n, none⟩ u) :=
    ((hk2.mono fun _ _ e => e.imp id .inl).trans (Kept.of_below (S := fun _ => False) hb4) (fun _ _ e => e.elim)).trans (setCell_kept _) (fun i _ e => by rw [e]; exact .inr (.inr rfl))
  have hB2 : B ≤ w2.heap.size := Nat.le_trans h.hB hk2.size
  refine ⟨h.turn_x hn hk (own_kept (own_here hp2 hb4) (setCell_kept _) fun b hb e => h.dx b hb (by rw [e]; rfl)) ?_ (own_kept (own_here hv2 hb4) (setCell_kept _) fun b hb e => ?_) (own_mono (own_kept hu (setCell_kept _) fun b hb e => ?_) hB2) hvb (fun k hk' => ?_) (fun k h1 h2 => ?_), ?_⟩
  · have := own_setN (j := n) (u := u) hq4
    rw [pl_set (x := ys) hn] at this
    exact this
  · rw [e] at hb
    obtain ⟨_, _, cur, hc⟩ := own_type hv2 gq hb
    exact absurd (tag_eq hc hqc2) (by decide)
  · rw [e] at hb
    have := (own_type hu gq hb).2.1
    omega
  · have h1 := (own_type hu k hk').2.1
    have h2 := hk2.size
    omega
  · have h3 := (own_type hv2 k h1).1
    have h4 := (own_type hu k h2).2.1
    omega
  · refine Kept.below (Below.refl _ _) hk h.hB fun k e => ?_
    rcases e with e | e | e
    · exact (own_type (h.ix n hn) k e).2.1
    · exact (own_type h.rx k e).2.1
    · exact (own_type hq k e).2.1
end Go.Proofs.Ytcfmcakdgamdmaa
