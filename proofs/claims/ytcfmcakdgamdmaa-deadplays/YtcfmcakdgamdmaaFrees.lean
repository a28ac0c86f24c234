/- Calls on the World's lists; frees. -/
import Derived.Test.YtcfmcakdgamdmaaPages
import Derived.Test.YtcfmcakdgamdmaaSortAll
namespace Go.Proofs.Ytcfmcakdgamdmaa
open Go.RowKit

theorem wpList_append_u64s {w : World} {ops : Array Oper} {rest : List Oper} {o : Oper} {a : Act} {Q : Exit → Act → World → Prop} (hgd : o.guard = none) (s x : Operand)
    (ho : o.op = .call { callee := .builtin .append, args := #[s, x], argTypes := #[35, 35] }) (base : Nat)
    (v : Value) (L : List Int) (hs : a.eval s = v) (hv : NewU base w v L) (u : Value) (M : List Int) (hx : a.eval x = u) (hu : U64At w u M)
    (hlen : (L.length + M.length) * 8 ≤ 140737488355328) (hbase : base ≤ w.heap.size)
    (h : ∀ v' w', NewU base w' v' (L ++ M) → w.grownBy w' v.ownBlock → Keep 32 base w w' → wpList Try.prog ops Q rest (a.put o.dst v') w') : wpList Try.prog ops Q (o :: rest) a w := by
  obtain ⟨i0, hi, hz0, hz1, hz2⟩ := infoU'
  obtain ⟨⟨ao, c, rfl, hc, hn, hcell⟩, hl⟩ := hu
  cases ao with
  | none =>
    have h0 : M = [] := by
      have := hn rfl
      exact List.eq_nil_of_length_eq_zero (by omega)
    subst h0
    obtain rfl := hn rfl
    refine wpList_append_own_none hgd s x 35 ho base 32 i0 1 Try.underlying35 hi _ _ _ hs hv hx ?_
    exact h v w (by rw [List.append_nil]; exact hv) ⟨rfl, rfl, rfl, Nat.le_refl _, fun _ _ _ => rfl⟩ (Keep.refl _ _ _)
  | some ad =>
    refine wpList_append_own w hgd s x 35 ho base 32 i0 _ 1 8 Try.underlying35 hi hz0 hz1 hz2 rfl (by decide) _ _ _ hs hv ad M.length c (M.map encU) hx hl ?_ (fun y hy => by obtain ⟨_, _, rfl⟩ := List.mem_map.1 hy; rfl) (by unfold maxLen; omega) (by omega) hbase ?_
    · intro j y hj
      obtain ⟨g, off, e, _, hc'⟩ := hcell j y hj
      cases e
      rw [add_at]
      exact hc'
    · intro v' w' hown hgr _
      refine h v' w' ?_ hgr (Keep.grown hv hgr hbase)
      show w'.ownsRow base 32 1 v' (L ++ M).length ((L ++ M).map encU)
      rw [List.length_append, List.map_append]
      exact hown
/-- Snapshots that came in: below a border. -/
structure SnAt (B : Nat) (w : World) (v : Value) (S : List Int) : Prop where
  is : ∃ a c, v = .slice a S.length c ∧ S.length ≤ c ∧ (a = none → c = 0) ∧ ∀ j u, (S.map encU)[j]? = some u → ∃ g off, a = some ⟨g, off, none⟩ ∧ g < B ∧ w.cell? ⟨g, off + j, none⟩ = some u
  short : S.length * 8 ≤ 140737488351232
theorem SnAt.at {B : Nat} {w : World} {v : Value} {S : List Int} (h : SnAt B w v S) (hB : B ≤ w.heap.size) : U64At w v S := by
  obtain ⟨a, c, e, h1, h2, h3⟩ := h.is
  exact ⟨⟨a, c, e, h1, h2, fun j u hj => by obtain ⟨g, off, e1, e2, e3⟩ := h3 j u hj; exact ⟨g, off, e1, Nat.lt_of_lt_of_le e2 hB, e3⟩⟩, by simp⟩
theorem SnAt.below {B : Nat} {w w' : World} {v : Value} {S : List Int} (h : SnAt B w v S) (hb : Below B w w') : SnAt B w' v S := by
  obtain ⟨⟨a, c, e, h1, h2, h3⟩, h4⟩ := h
  exact ⟨⟨a, c, e, h1, h2, fun j u hj => by obtain ⟨g, off, e1, e2, e3⟩ := h3 j u hj; exact ⟨g, off, e1, e2, (below_cell hb e2).trans e3⟩⟩, h4⟩
theorem SnAt.nil (B : Nat) (w : World) : SnAt B w (.slice none 0 0) [] := ⟨⟨none, 0, rfl, Nat.le_refl _, fun _ => rfl, fun j u hj => by simp at hj⟩, by decide⟩
theorem left_left (L : List Lf) (S : List Int) : leftL (leftL L S) S = leftL L S := by unfold leftL; rw [List.filter_filter]; simp
theorem gone_left (L : List Lf) (S : List Int) : goneL (leftL L S) S = [] := by
  unfold goneL leftL
  rw [List.filter_filter]
  have : (L.filter fun x => (!anyL S x) && anyL S x) = [] := by
    rw [List.filter_eq_nil_iff]
    intro x _
    cases anyL S x <;> simp
  rw [this]
  rfl
section
variable {B m : Nat} {w w' : World} {W i : Nat} {cs rs : Nat → Nat} {va vb : Nat → Value} {LA LB : Nat → List Lf} {P Q : List (Value × List Int)} {X Y : List (Value × List Lf)}
theorem Wst.put_l {v' : Value} {L' : List Lf} (h : Wst B m w W cs rs va vb LA LB P Q X Y) (hi : i < m) (hk : Kept (Its (cs i) (va i)) w w') (hl : ListAt B w' (cs i) v' L') (hm : ∀ k, v'.ownBlock = some k → (va i).ownBlock = some k ∨ w.heap.size ≤ k) : Wst B m w' W cs rs (at_ va i v') vb (at_ LA i L') LB P Q X Y ∧ Stay w w' ∧ Below B w w' := by
  obtain ⟨vl, vr, vp, vq, vx, vy, n, hR, hC⟩ := h
  have typ : ∀ k, Its (cs i) (va i) k → B ≤ k ∧ ∃ cur t, w.heap[k]? = some (.cells cur t (0, 0)) ∧ (t = 63 ∨ t = 34) := fun k e => by
    rcases e with rfl | e
    · exact ⟨(hC.ls i hi).low, _, _, (hC.ls i hi).cells, .inl rfl⟩
    · obtain ⟨_, h0, cur, hc⟩ := own_type (hC.ls i hi).row k e; exact ⟨h0, _, _, hc, .inr rfl⟩
  refine ⟨⟨vl, vr, vp, vq, vx, vy, n, hR.far hk fun k e _ => ?_, hC.put_l hi hk hl hm⟩, Stay.of hk fun k e _ => ?_, Kept.below (Below.refl _ _) hk hC.hB fun k e => (typ k e).1⟩
  · obtain ⟨_, cur, t, hc, ht⟩ := typ k e
    refine ⟨cur, t, hc, ?_⟩
    rcases ht with rfl | rfl <;> exact ⟨by decide, by decide, by decide, by decide, by decide⟩
  · obtain ⟨_, cur, t, hc, ht⟩ := typ k e
    refine ⟨cur, t, hc, ?_⟩
    rcases ht with rfl | rfl
    · exact .inr (.inr (.inr (.inr (.inr (.inl rfl)))))
    · exact .inr (.inr (.inr (.inr (.inr (.inr (.inr rfl))))))
theorem Wst.put_r {v' : Value} {L' : List Lf} (h : Wst B m w W cs rs va vb LA LB P Q X Y) (hi : i < m) (hk : Kept (fun k => k = rs i) w w') (hl : RefAt B w' (rs i) v' L') (hm : ∀ k, v'.ownBlock = some k → (vb i).ownBlock = some k ∨ w.heap.size ≤ k) : Wst B m w' W cs rs va (at_ vb i v') LA (at_ LB i L') P Q X Y ∧ Stay w w' ∧ Below B w w' := by
  obtain ⟨vl, vr, vp, vq, vx, vy, n, hR, hC⟩ := h
  have hc := (hC.re i hi).cells
  refine ⟨⟨vl, vr, vp, vq, vx, vy, n, hR.far hk fun k e _ => ⟨#[vb i], 73, by rw [e]; exact hc, by decide, by decide, by decide, by decide, by decide⟩, hC.put_r hi hk hl hm⟩, Stay.of hk fun k e _ => ⟨#[vb i], 73, by rw [e]; exact hc, .inr (.inr (.inr (.inr (.inr (.inr (.inl rfl))))))⟩, Kept.below (Below.refl _ _) hk hC.hB fun k e => by rw [e]; exact (hC.re i hi).low⟩
/-- The program's Free on one of the lists. -/
theorem Wst.free_l {sv : Value} {S : List Int} (h : Wst B m w W cs rs va vb LA LB P Q X Y) (hi : i < m) (hS : U64At w sv S) (hs8 : S.length * 8 ≤ 140737488355328) :
    Calls Try.prog 17 #[ptr (cs i), sv] w fun r w' => ∃ vp v', r = .returned vp ∧ NewI w.heap.size w' vp (goneL (LA i) S) ∧ Wst B m w' W cs rs (at_ va i v') vb (at_ LA i (leftL (LA i) S)) LB P Q X Y ∧ Stay w w' ∧ Below B w w' ∧ Kept (Its (cs i) (va i)) w w' := by
  refine (free_any (h.core.ls i hi) hS hs8 (sort_all _ (by omega))).mono ?_
  rintro r w' ⟨vp, v', rfl, hn, hl, hk, hv⟩
  obtain ⟨h1, h2, h3⟩ := h.put_l hi hk hl (fun k e => .inl (by rw [← hv]; exact e))
  exact ⟨vp, v', rfl, hn, h1, h2, h3, hk⟩
theorem Wst.free_r {sv : Value} {S : List Int} (h : Wst B m w W cs rs va vb LA LB P Q X Y) (hi : i < m) (hS : U64At w sv S) (hs8 : S.length * 8 ≤ 140737488355328) (hsh : (LB i).length * 24 ≤ 140737488355328) :
    Calls Try.prog 41 #[ptr (rs i), sv] w fun r w' => ∃ vp v', r = .returned vp ∧ NewI w.heap.size w' vp (goneL (LB i) S) ∧ Wst B m w' W cs rs va (at_ vb i v') LA (at_ LB i (leftL (LB i) S)) P Q X Y ∧ Stay w w' ∧ Below B w w' := by
  refine (refFree_any (h.core.re i hi) h.hB hS hsh hs8).mono ?_
  rintro r w' ⟨vp, v', rfl, hn, hl, hk, hv⟩
  obtain ⟨h1, h2, h3⟩ := h.put_r hi hk hl (fun k e => .inr (hv k e))
  exact ⟨vp, v', rfl, hn, h1, h2, h3⟩
theorem Wst.put_call_l {x : Lf} (h : Wst B m w W cs rs va vb LA LB P Q X Y) (hi : i < m) (hsh : ((LA i).length + 1) * 24 ≤ 140737488355328) :
    Calls Try.prog 21 #[ptr (cs i), aggL x] w fun r w' => ∃ v', r = .returned (.int .i64 (putE (LA i) x)) ∧ Wst B m w' W cs rs (at_ va i v') vb (at_ LA i (putL (LA i) x)) LB P Q X Y ∧ Stay w w' ∧ Below B w w' := by
  refine (put_any (h.core.ls i hi) h.hB hsh).mono ?_
  rintro r w' ⟨v', rfl, hl, hk, hv⟩
  obtain ⟨h1, h2, h3⟩ := h.put_l hi hk hl hv
  exact ⟨v', rfl, h1, h2, h3⟩
theorem Wst.put_call_r {x : Lf} (h : Wst B m w W cs rs va vb LA LB P Q X Y) (hi : i < m) (hok : OkL (LB i)) (hsh : ((LB i).length + 1) * 24 ≤ 140737488355328) :
    Calls Try.prog 23 #[ptr (rs i), .agg #[.int .i64 x.p, .int .u64 x.b, .int .u64 x.d]] w fun r w' => ∃ v', r = .returned (.int .i64 (putE (LB i) x)) ∧ Wst B m w' W cs rs va (at_ vb i v') LA (at_ LB i (putL (LB i) x)) P Q X Y ∧ Stay w w' ∧ Below B w w' := by
  refine (refPut_any (h.core.re i hi) hok h.hB hsh).mono ?_
  rintro r w' ⟨v', rfl, hl, hk, hv⟩
  obtain ⟨h1, h2, h3⟩ := h.put_r hi hk hl hv
  exact ⟨v', rfl, h1, h2, h3⟩
end
end Go.Proofs.Ytcfmcakdgamdmaa
