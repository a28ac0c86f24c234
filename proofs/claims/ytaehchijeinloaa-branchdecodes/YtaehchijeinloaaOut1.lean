/- Kids that came out: rows of own memory, by their names. -/
import Derived.Test.YtaehchijeinloaaRepl
import Derived.Test.YtaehchijeinloaaLendK1
namespace Go.Proofs.Ytaehchijeinloaa
open Go.RowKit

/-- Nothing that was there has changed but for what S says. -/
structure Kept (S : Nat → Prop) (w w' : World) : Prop where
  os : w'.os = w.os
  tape : w'.tape = w.tape
  output : w'.output = w.output
  size : w.heap.size ≤ w'.heap.size
  block : ∀ k, k < w.heap.size → ¬ S k → w'.heap[k]? = w.heap[k]?
theorem Kept.refl (S : Nat → Prop) (w : World) : Kept S w w := ⟨rfl, rfl, rfl, Nat.le_refl _, fun _ _ _ => rfl⟩
theorem Kept.of_below {S : Nat → Prop} {w w' : World} (h : Below w.heap.size w w') : Kept S w w' := ⟨h.os, h.tape, h.output, h.size, fun k hk _ => h.block k hk⟩
theorem Kept.of_grown {S : Nat → Prop} {w w' : World} {row : Option Nat} (h : w.grownBy w' row) (hr : ∀ k, row = some k → S k) : Kept S w w' :=
  ⟨h.os, h.tape, h.output, h.size, fun k hk hs => h.block k hk (fun e => hs (hr k e.symm))⟩
theorem Kept.trans {S T : Nat → Prop} {a b c : World} (h : Kept S a b) (k : Kept T b c) (hT : ∀ i, i < a.heap.size → T i → S i) : Kept S a c :=
  ⟨k.os.trans h.os, k.tape.trans h.tape, k.output.trans h.output, Nat.le_trans h.size k.size, fun i hi hs => (k.block i (Nat.lt_of_lt_of_le hi h.size) (fun ht => hs (hT i hi ht))).trans (h.block i hi hs)⟩
theorem Kept.below {S : Nat → Prop} {B : Nat} {b c : World} (k : Kept S b c) (hB : B ≤ b.heap.size) (hS : ∀ i, S i → B ≤ i) : Below B b c :=
  ⟨k.os, k.tape, k.output, k.size, fun i hi => k.block i (Nat.lt_of_lt_of_le hi hB) (fun x => by have := hS i x; omega)⟩
theorem Kept.draws {S : Nat → Prop} {a b : World} (h : Kept S a b) (q : Nat) : Kept S a (b.drewN q) := ⟨h.os, h.tape, h.output, h.size, h.block⟩
theorem Kept.drew {S : Nat → Prop} {a b : World} (h : Kept S a b) : Kept S a b.drew := ⟨h.os, h.tape, h.output, h.size, h.block⟩
theorem setCell_kept {w : World} {b i : Nat} (v : Value) : Kept (fun k => k = b) w (w.setCell ⟨b, i, none⟩ v) :=
  ⟨rfl, rfl, rfl, by simp [World.setCell], fun k _ hk => by simp [World.setCell, Array.getElem?_modify, Ne.symm hk]⟩

/-- A row; its name; rows that may share memory. -/
structure Rw where
  T : TypeId
  z : Nat
  v : Value
  n : Nat
  xs : List Value
abbrev Ix := Nat × Nat
def cls (i : Ix) : Ix := if i.1 = 5 then (3, i.2) else i
def Rw.Own (B : Nat) (w : World) (x : Rw) : Prop := w.ownsRow B x.T x.z x.v x.n x.xs
/-- Rows, each of own memory, but for those of one class. -/
structure Hp (B : Nat) (w : World) (r : Ix → Option Rw) : Prop where
  own : ∀ i x, r i = some x → x.Own B w
  apart : ∀ i j x y k, r i = some x → r j = some y → x.v.ownBlock = some k → y.v.ownBlock = some k → cls i = cls j
theorem Hp.get {B : Nat} {w : World} {r : Ix → Option Rw} (h : Hp B w r) {i : Ix} {T z : Nat} {v : Value} {n : Nat} {xs : List Value} (hi : r i = some ⟨T, z, v, n, xs⟩) : w.ownsRow B T z v n xs := h.own _ _ hi
theorem Hp.here {B : Nat} {w w' : World} {r : Ix → Option Rw} (h : Hp B w r) (hb : Below w.heap.size w w') : Hp B w' r :=
  ⟨fun i x hi => own_same (h.own i x hi) fun b _ hl => hb.block b hl, h.apart⟩
theorem Hp.step {B : Nat} {w w' : World} {r r' : Ix → Option Rw} {P : Nat → Prop} (c : Ix) (h : Hp B w r) (hk : Kept P w w') (hP : ∀ k, P k → ∃ i x, cls i = c ∧ r i = some x ∧ x.v.ownBlock = some k)
    (same : ∀ i, cls i ≠ c → r' i = r i)
    (new : ∀ i x, cls i = c → r' i = some x → x.Own B w' ∧ ∀ k, x.v.ownBlock = some k → (∃ j y, cls j = c ∧ r j = some y ∧ y.v.ownBlock = some k) ∨ w.heap.size ≤ k) : Hp B w' r' := by
  have lt : ∀ i x k, r i = some x → x.v.ownBlock = some k → k < w.heap.size := fun i x k hi hk => (own_type (h.own i x hi) k hk).1
  have half : ∀ i j x y k, cls i = c → cls j ≠ c → r' i = some x → r' j = some y → x.v.ownBlock = some k → y.v.ownBlock = some k → False := fun i j x y k hi hj hx hy hxk hyk => by
    rw [same j hj] at hy
    rcases (new i x hi hx).2 k hxk with ⟨j2, y2, h1, h2, h3⟩ | h1
    · exact hj ((h.apart j j2 y y2 k hy h2 hyk h3).trans h1)
    · have := lt j y k hy hyk
      omega
  refine ⟨fun i x hi => ?_, fun i j x y k hi hj hx hy => ?_⟩
  · by_cases hc : cls i = c
    · exact (new i x hc hi).1
    · rw [same i hc] at hi
      refine own_same (h.own i x hi) fun b hb hl => hk.block b hl fun hp => ?_
      obtain ⟨j, y, h1, h2, h3⟩ := hP b hp
      exact hc ((h.apart i j x y b hi h2 hb h3).trans h1)
  · by_cases hi' : cls i = c
    · by_cases hj' : cls j = c
      · rw [hi', hj']
      · exact (half i j x y k hi' hj' hi hj hx hy).elim
    · by_cases hj' : cls j = c
      · exact (half j i y x k hj' hi' hj hi hy hx).elim
      · rw [same i hi'] at hi
        rw [same j hj'] at hj
        exact h.apart i j x y k hi hj hx hy
theorem Hp.low {B : Nat} {w w' : World} {r : Ix → Option Rw} {P : Nat → Prop} (h : Hp B w r) (hk : Kept P w w') (hP : ∀ k, P k → ∃ i x, r i = some x ∧ x.v.ownBlock = some k) (hB : B ≤ w.heap.size) : Below B w w' :=
  hk.below hB fun k hp => by
    obtain ⟨i, x, h1, h2⟩ := hP k hp
    exact (own_type (h.own i x h1) k h2).2.1
def put (r : Ix → Option Rw) (i : Ix) (x : Rw) : Ix → Option Rw := fun j => if j = i then some x else r j
theorem put_same (r : Ix → Option Rw) (i : Ix) (x : Rw) : put r i x i = some x := by simp [put]
theorem put_other {r : Ix → Option Rw} {i j : Ix} {x : Rw} (h : j ≠ i) : put r i x j = r j := by simp [put, h]
/-- One row changes, in its place or to a new one; no other of its class is there. -/
theorem Hp.turn {B : Nat} {w w' : World} {r : Ix → Option Rw} {P : Nat → Prop} {i : Ix} {x y : Rw} (h : Hp B w r) (hi : r i = some x) (hone : ∀ j, cls j = cls i → j ≠ i → r j = none) (hk : Kept P w w') (hP : ∀ k, P k → x.v.ownBlock = some k)
    (ho : y.Own B w') (hb : ∀ k, y.v.ownBlock = some k → x.v.ownBlock = some k ∨ w.heap.size ≤ k) : Hp B w' (put r i y) :=
  h.step (cls i) hk (fun k hp => ⟨i, x, rfl, hi, hP k hp⟩) (fun j hj => put_other fun e => hj (by rw [e])) (fun j z hj hz => by
    by_cases e : j = i
    · subst e
      rw [put_same] at hz
      cases hz
      exact ⟨ho, fun k hk => (hb k hk).imp (fun e => ⟨j, x, rfl, hi, e⟩) id⟩
    · rw [put_other e, hone j hj e] at hz
      cases hz)
/-- A row more. -/
theorem Hp.more {B : Nat} {w w' : World} {r : Ix → Option Rw} {i : Ix} {y : Rw} (h : Hp B w r) (hone : ∀ j, cls j = cls i → r j = none) (hk : Below w.heap.size w w') (ho : y.Own w.heap.size w') (hB : B ≤ w.heap.size) : Hp B w' (put r i y) :=
  h.step (P := fun _ => False) (cls i) (Kept.of_below hk) (fun k hp => hp.elim) (fun j hj => put_other fun e => hj (by rw [e])) (fun j z hj hz => by
    by_cases e : j = i
    · subst e
      rw [put_same] at hz
      cases hz
      exact ⟨own_mono ho hB, fun k hk => .inr (own_type ho k hk).2.1⟩
    · rw [put_other e, hone j hj] at hz
      cases hz)
theorem Hp.nil (B : Nat) (w : World) : Hp B w fun _ => none := ⟨fun _ _ h => (by cases h), fun _ _ _ _ _ h => (by cases h)⟩
/-- A row leaves. -/
theorem Hp.less {B : Nat} {w : World} {r r' : Ix → Option Rw} (h : Hp B w r) (hr : ∀ i x, r' i = some x → r i = some x) : Hp B w r' :=
  ⟨fun i x hi => h.own i x (hr i x hi), fun i j x y k hi hj => h.apart i j x y k (hr i x hi) (hr j y hj)⟩

/-- A call of two, as a step of a region that draws its order. -/
theorem step_call_two {w : World} {ops : Array Oper} {o : Oper} {a : Act} {K : Act → World → Prop} {Q : Exit → Act → World → Prop} {E : Prop} (hgd : o.guard = none) (N : Nat) (hE : Go.Proofs.Enters Try.prog N) (x y : Operand) (t t2 : TypeId)
    (ho : o.op = .call { callee := .value (.func N), args := #[x, y], argTypes := #[t, t2] }) (v v2 : Value) (R : Value → World → Prop) (hx : a.eval x = v) (hy : a.eval y = v2) (hc : Calls Try.prog N #[v, v2] w fun r w' => ∃ u, r = .returned u ∧ R u w') (h : ∀ u w', R u w' → K (a.put o.dst u) w') :
    if Region.wanted o (yielded ops a.tmps) = true then Oper.wp Try.prog o a w K Q else E := by
  have hw : Region.wanted o (yielded ops a.tmps) = true := by simp [Region.wanted, hgd]
  rw [if_pos hw]
  unfold Oper.wp
  simp [execOp, ho, resolve, invoke, Deferred.ofValue, hx, hy, eval_func, hE #[v, v2] w]
  show Calls Try.prog N _ w _
  refine hc.mono ?_
  rintro r w' ⟨u, rfl, hr⟩
  exact h u w' hr

/-- append onto a row of own memory, of whatever row: what changes, and where it lies then. -/
theorem wpList_append_hp {w : World} {ops : Array Oper} {rest : List Oper} {o : Oper} {a : Act} {Q : Exit → Act → World → Prop} (hgd : o.guard = none) (s x : Operand) (t : TypeId)
    (ho : o.op = .call { callee := .builtin .append, args := #[s, x], argTypes := #[t, t] }) (base : Nat) (e : TypeId) (i : TypeInfo) (z : Value) (bytes : Nat) (ht : Try.prog.underlying t = some (.slice e)) (hi : Try.prog.info? e = some i) (hz : i.zero = some z) (hs : i.size = 1) (hby : i.bytes = bytes) (hzs : z.cells.size = 1)
    (v : Value) (n : Nat) (xs : List Value) (hsv : a.eval s = v) (hown : w.ownsRow base e 1 v n xs) (u : Value) (ys : List Value) (hx : a.eval x = u) (hu : CellsAt w.heap.size w u ys) (h1 : ∀ x ∈ ys, x.oneCell' = true) (hlen : n + ys.length ≤ maxLen) (hbytes : (n + ys.length) * bytes ≤ 140737488355328) (hb : base ≤ w.heap.size)
    (h : ∀ v' w', w'.ownsRow base e 1 v' (n + ys.length) (xs ++ ys) → Kept (fun k => v.ownBlock = some k) w w' → (∀ k, v'.ownBlock = some k → v.ownBlock = some k ∨ w.heap.size ≤ k) → wpList Try.prog ops Q rest (a.put o.dst v') w') : wpList Try.prog ops Q (o :: rest) a w := by
  obtain ⟨ao, c, rfl, hc, hn, hcell⟩ := hu.is
  by_cases hy : ys = []
  · subst hy
    simp only [List.length_nil, Nat.add_zero, List.append_nil] at h hx
    rcases id hown.2 with ⟨rfl, rfl⟩ | ⟨g, cap, cur, rfl, _, _, hcap, _⟩
    · cases ao with
      | none =>
        obtain rfl := hn rfl
        exact wpList_append_own_none hgd s x t ho base e i 1 ht hi _ _ _ hsv hown hx (h _ _ hown (Kept.refl _ _) fun k hk => .inl hk)
      | some ad =>
        refine wpList_append_own w hgd s x t ho base e i z 1 bytes ht hi hz hs hby hzs (by decide) _ _ xs hsv hown ad 0 c [] hx rfl (fun j u hj => by simp at hj) (fun u hu => by simp at hu) (by omega) (by omega) hb ?_
        intro v' w' ho' hg' hiff
        rw [hiff.2 ⟨rfl, rfl⟩] at ho' ⊢
        rw [List.append_nil] at ho'
        exact h _ _ ho' (Kept.of_grown hg' fun k hk => hk) fun k hk => by cases hk
    · refine wpList_plain hgd fun K hK => ?_
      have hrun := run_append_nothing (P := Try.prog) w t o.type e i ht hi ⟨g, 0, none⟩ n cap hcap (.slice ao 0 c) (by
        cases ao with
        | none => obtain rfl := hn rfl; exact .inl rfl
        | some a => exact .inr ⟨a, c, rfl⟩)
      unfold Oper.wp
      simp [execOp, ho, resolve, invoke, builtin, hsv, hx, hrun, Result.andThen]
      exact hK _ _ (h _ _ hown (Kept.refl _ _) fun k hk => .inl hk)
  · obtain ⟨y, hy0⟩ : ∃ y, ys[0]? = some y := by
      cases ys with
      | nil => exact absurd rfl hy
      | cons a r => exact ⟨a, rfl⟩
    obtain ⟨g, off, rfl, _, _⟩ := hcell 0 y hy0
    have hpos : 0 < ys.length := by
      cases ys with
      | nil => exact absurd rfl hy
      | cons a r => simp
    refine wpList_append_lies w hgd s x t ho base e i z 1 bytes ht hi hz hs hby hzs (by decide) v n xs hsv hown ⟨g, off, none⟩ ys.length c ys hx (by simp) (fun j u hj => by
      obtain ⟨g', off', e1, _, h⟩ := hcell j u hj
      cases e1
      rw [add_at]; exact h) h1 hpos hlen hbytes hb _ rfl ?_
    intro g2 cap w' ho' hg' hat _
    refine h _ _ ho' (Kept.of_grown hg' fun k hk => hk) fun k hk => ?_
    cases hk
    rcases hat with e | e
    · exact .inl e
    · exact .inr (show w.heap.size ≤ g2 from Nat.le_of_eq e.symm)
end Go.Proofs.Ytaehchijeinloaa
