/- step: a list more. -/
import Derived.Test.YtcfmcakdgamdmaaStepD
namespace Go.Proofs.Ytcfmcakdgamdmaa
open Go.RowKit

theorem infoPl : ∃ i, Try.prog.info? 40 = some i ∧ i.zero = some (.pointer none) ∧ i.size = 1 ∧ i.bytes = 8 := by
  have h : (Try.prog.info? 40).map (fun i => (i.zero, i.size, i.bytes)) = some (some (.pointer none), 1, 8) := by kernel_rfl
  cases hi : Try.prog.info? 40 with
  | none => rw [hi] at h; simp at h
  | some i => rw [hi] at h; simp at h; exact ⟨i, rfl, h⟩
theorem infoPr : ∃ i, Try.prog.info? 58 = some i ∧ i.zero = some (.pointer none) ∧ i.size = 1 ∧ i.bytes = 8 := by
  have h : (Try.prog.info? 58).map (fun i => (i.zero, i.size, i.bytes)) = some (some (.pointer none), 1, 8) := by kernel_rfl
  cases hi : Try.prog.info? 58 with
  | none => rw [hi] at h; simp at h
  | some i => rw [hi] at h; simp at h; exact ⟨i, rfl, h⟩
theorem eval_func (a : Act) (n : FuncId) : a.eval (.func n) = .func (.func n) #[] #[] := rfl
/-- A call without arguments whose answer is new, as a step of a region that draws its order. -/
theorem step_call0 {w : World} {ops : Array Oper} {o : Oper} {a : Act} {K : Act → World → Prop} {Q : Exit → Act → World → Prop} {E : Prop} (hgd : o.guard = none) (N : Nat) (hE : Go.Proofs.Enters Try.prog N)
    (ho : o.op = .call { callee := .value (.func N), args := #[], argTypes := #[] }) (u : Value) (R : World → Prop) (hc : Calls Try.prog N #[] w fun r w' => r = .returned u ∧ R w') (h : ∀ w', R w' → K (a.put o.dst u) w') :
    if Region.wanted o (yielded ops a.tmps) = true then Oper.wp Try.prog o a w K Q else E := by
  have hw : Region.wanted o (yielded ops a.tmps) = true := by simp [Region.wanted, hgd]
  rw [if_pos hw]
  unfold Oper.wp
  simp [execOp, ho, resolve, invoke, Deferred.ofValue, eval_func, hE #[] w]
  show Calls Try.prog N _ w _
  refine hc.mono ?_
  rintro r w' ⟨rfl, hr⟩
  exact h w' hr
theorem rows_typ {B : Nat} {w : World} {W : Nat} {vl vr vp vq vx vy : Value} {n : Int} {xl xr xp xq xx xy : List Value} (h : Rows B w W vl vr vp vq vx vy n xl xr xp xq xx xy) : (∀ k, (k = W ∨ vl.ownBlock = some k) → B ≤ k ∧ ∃ cur t, w.heap[k]? = some (.cells cur t (0, 0)) ∧ (t = 30 ∨ t = 40 ∨ t = 58)) ∧ (∀ k, (k = W ∨ vr.ownBlock = some k) → B ≤ k ∧ ∃ cur t, w.heap[k]? = some (.cells cur t (0, 0)) ∧ (t = 30 ∨ t = 40 ∨ t = 58)) := by
  refine ⟨fun k e => ?_, fun k e => ?_⟩
  · rcases e with rfl | e
    · exact ⟨h.low, _, _, h.head, .inl rfl⟩
    · obtain ⟨_, h0, cur, hc⟩ := own_type h.rl k e; exact ⟨h0, _, _, hc, .inr (.inl rfl)⟩
  · rcases e with rfl | e
    · exact ⟨h.low, _, _, h.head, .inl rfl⟩
    · obtain ⟨_, h0, cur, hc⟩ := own_type h.rr k e; exact ⟨h0, _, _, hc, .inr (.inr rfl)⟩
section
variable {B m : Nat} {w1 w3 w4 w5 : World} {W bc : Nat} {cs rs : Nat → Nat} {va vb : Nat → Value} {LS : Nat → List Lf} {P Q : List (Value × List Int)} {X Y : List (Value × List Lf)} {vl vr vl' vr' vp vq vx vy : Value} {n : Int} {xl xr : List Value} {b2 : Nat}
theorem new_low (hR1 : Rows B w1 W vl vr vp vq vx vy n xl xr (P.map (·.1)) (Q.map (·.1)) (X.map (·.1)) (Y.map (·.1))) (hB : B ≤ w1.heap.size)
    (hQ1 : Rows B w3 W vl' vr vp vq vx vy n (xl ++ [ptr bc]) xr (P.map (·.1)) (Q.map (·.1)) (X.map (·.1)) (Y.map (·.1)) ∧ Kept (fun k => k = W ∨ vl.ownBlock = some k) w1 w3) (hb4 : Below w3.heap.size w3 w4)
    (hQ2 : Rows B w5 W vl' vr' vp vq vx vy n (xl ++ [ptr bc]) (xr ++ [ptr b2]) (P.map (·.1)) (Q.map (·.1)) (X.map (·.1)) (Y.map (·.1)) ∧ Kept (fun k => k = W ∨ vr.ownBlock = some k) w4 w5) : Below B w1 w5 := by
  have h3 : Below B w1 w3 := Kept.below (Below.refl _ _) hQ1.2 hB fun k e => ((rows_typ hR1).1 k e).1
  have hB3 : B ≤ w3.heap.size := Nat.le_trans hB hQ1.2.size
  have h4 : Below B w1 w4 := h3.trans (hb4.mono hB3)
  exact Kept.below h4 hQ2.2 (Nat.le_trans hB3 hb4.size) fun k e => ((rows_typ (hQ1.1.below hb4)).2 k e).1
theorem new_end (hC : Core B m w1 cs rs va vb LS LS P Q X Y) (hxl : ptrs m cs = xl) (hxr : ptrs m rs = xr) (hL : ListAt bc w1 bc (.slice none 0 0) []) (hbc : B ≤ bc ∧ bc < w1.heap.size) (h1 : ∀ j, j < m → cs j < bc) (h2 : ∀ j, j < m → rs j < bc)
    (hR1 : Rows B w1 W vl vr vp vq vx vy n xl xr (P.map (·.1)) (Q.map (·.1)) (X.map (·.1)) (Y.map (·.1)))
    (hQ1 : Rows B w3 W vl' vr vp vq vx vy n (xl ++ [ptr bc]) xr (P.map (·.1)) (Q.map (·.1)) (X.map (·.1)) (Y.map (·.1)) ∧ Kept (fun k => k = W ∨ vl.ownBlock = some k) w1 w3) (hb4 : Below w3.heap.size w3 w4) (hr4 : RefAt w3.heap.size w4 w3.heap.size (.slice none 0 0) [])
    (hQ2 : Rows B w5 W vl' vr' vp vq vx vy n (xl ++ [ptr bc]) (xr ++ [ptr w3.heap.size]) (P.map (·.1)) (Q.map (·.1)) (X.map (·.1)) (Y.map (·.1)) ∧ Kept (fun k => k = W ∨ vr.ownBlock = some k) w4 w5) :
    Wst B (m + 1) w5 W (at_ cs m bc) (at_ rs m w3.heap.size) (at_ va m (.slice none 0 0)) (at_ vb m (.slice none 0 0)) (at_ LS m []) (at_ LS m []) P Q X Y := by
  have t1 : ∀ k, (k = W ∨ vl.ownBlock = some k) → k < w1.heap.size → ∃ cur t, w1.heap[k]? = some (.cells cur t (0, 0)) ∧ t ≠ 63 ∧ t ≠ 73 ∧ t ≠ 34 ∧ t ≠ 3 := fun k e _ => by
    obtain ⟨_, cur, t, hc, ht⟩ := (rows_typ hR1).1 k e
    refine ⟨cur, t, hc, ?_⟩
    rcases ht with rfl | rfl | rfl <;> exact ⟨by decide, by decide, by decide, by decide⟩
  have t2 : ∀ k, (k = W ∨ vr.ownBlock = some k) → k < w4.heap.size → ∃ cur t, w4.heap[k]? = some (.cells cur t (0, 0)) ∧ t ≠ 63 ∧ t ≠ 73 ∧ t ≠ 34 ∧ t ≠ 3 := fun k e _ => by
    obtain ⟨_, cur, t, hc, ht⟩ := (rows_typ (hQ1.1.below hb4)).2 k e
    refine ⟨cur, t, hc, ?_⟩
    rcases ht with rfl | rfl | rfl <;> exact ⟨by decide, by decide, by decide, by decide⟩
  have hL1 : ListAt B w1 bc (.slice none 0 0) [] := ⟨hL.cells, World.ownsRow_nil _ _ _ _, hL.ok, hbc.1, by decide⟩
  have no : ∀ {S : Nat → Prop} {w w' : World} {b : Nat}, ListAt B w b (.slice none 0 0) [] → Kept S w w' → (∀ k, S k → k < w.heap.size → ∃ cur t, w.heap[k]? = some (.cells cur t (0, 0)) ∧ t ≠ 63 ∧ t ≠ 73 ∧ t ≠ 34 ∧ t ≠ 3) → ListAt B w' b (.slice none 0 0) [] := fun h hk hS => h.keptBy hk (fun e => by
    obtain ⟨cur, t, hc, t1, _⟩ := hS _ e h.lt
    exact t1 (tag_eq hc h.cells)) (fun k e => by cases e)
  have hL3 := no hL1 hQ1.2 t1
  have hL4 : ListAt B w4 bc (.slice none 0 0) [] := hL3.below hb4
  have hL5 := no hL4 hQ2.2 t2
  have hB3 : B ≤ w3.heap.size := Nat.le_trans hC.hB hQ1.2.size
  have hR5 : RefAt B w5 w3.heap.size (.slice none 0 0) [] := by
    have : RefAt B w4 w3.heap.size (.slice none 0 0) [] := ⟨hr4.cells, World.ownsRow_nil _ _ _ _, hB3⟩
    refine this.kept hQ2.2 (fun e => ?_) (fun k e => by cases e)
    obtain ⟨cur, t, hc, _, t2', _⟩ := t2 _ e this.lt
    exact t2' (tag_eq hc this.cells)
  have hC5 := (((hC.far hQ1.2 t1).below hb4).far hQ2.2 t2).more_l hL5 hR5 (fun j hj e => by have := h1 j hj; omega) (fun j hj e => by have := h2 j hj; have := hQ1.2.size; omega)
  refine ⟨vl', vr', vp, vq, vx, vy, n, ?_, hC5⟩
  rw [ptrs_new, ptrs_new, hxl, hxr]
  exact hQ2.1
end
set_option maxHeartbeats 3200000 in
set_option maxRecDepth 100000 in
theorem step_new {B m : Nat} {w : World} {W : Nat} {cs rs : Nat → Nat} {va vb : Nat → Value} {LS : Nat → List Lf} {P Q : List (Value × List Int)} {X Y : List (Value × List Lf)} {on sn : Int} {x : Lf} {sv : Value} (h : Wst B m w W cs rs va vb LS LS P Q X Y) (hmb : m ≤ 1954687338269) (hsv : ∃ a n c, sv = .slice a n c) :
    Calls Try.prog 8 #[ptr W, .agg #[.int .i64 1, .int .i64 on, .int .i64 x.p, .int .u64 x.b, .int .u64 x.d, sv, .int .u64 sn]] w fun r w' => r = .returned (.bool true) ∧ ∃ cs' rs' va' vb', Wst B (m + 1) w' W cs' rs' va' vb' (at_ LS m []) (at_ LS m []) P Q X Y ∧ Below B w w' := by
  obtain ⟨sa, sl, sc, rfl⟩ := hsv
  obtain ⟨i1, hi1, y0, y1, y2⟩ := infoPl
  obtain ⟨i2, hi2, z0, z1, z2⟩ := infoPr
  obtain ⟨wo, hwo⟩ : ∃ wo, wo = w.alloc (.cells #[.int .i64 1, .int .i64 on, .int .i64 x.p, .int .u64 x.b, .int .u64 x.d, .slice sa sl sc, .int .u64 sn] 37) := ⟨_, rfl⟩
  have HBO : Hid (Below w.heap.size w wo) := by rw [hwo]; exact below_new _ _
  have hoc : wo.heap[w.heap.size]? = some (.cells #[.int .i64 1, .int .i64 on, .int .i64 x.p, .int .u64 x.b, .int .u64 x.d, .slice sa sl sc, .int .u64 sn] 37 (0, 0)) := by rw [hwo]; exact heap_alloc_last _ _
  have HWO : Hid (Wst B m wo W cs rs va vb LS LS P Q X Y) := h.below HBO.out
  have HBW : Hid (B ≤ w.heap.size) := h.hB
  obtain ⟨o0, _⟩ := op7 hoc
  have HMB : Hid (m ≤ 1954687338269) := hmb
  clear h hmb hoc
  go_enter Try.func8, Try.ntmps8
  go_upto_region 1 with fail
  rw [← hwo]
  clear hwo
  generalize w.heap.size = b at *
  go_wp2_with fail
  refine (new_any wo).mono ?_
  rintro r w1 ⟨rfl, hl1, hb1⟩
  have HL1 : Hid (ListAt wo.heap.size w1 wo.heap.size (.slice none 0 0) []) := hl1
  have HB1 : Hid (Below wo.heap.size wo w1) := hb1
  obtain ⟨vl, vr, vp, vq, vx, vy, n, hR, hC⟩ := (HWO.out.below hb1).is
  have HC1 : Hid (Core B m w1 cs rs va vb LS LS P Q X Y) := hC
  have HXM : Hid ((ptrs m cs).length = m ∧ (ptrs m rs).length = m) := ⟨ptrs_length _ _, ptrs_length _ _⟩
  have HBB : Hid (B ≤ w1.heap.size) := hC.hB
  have HLTC : Hid (∀ j, j < m → cs j < wo.heap.size) := fun j hj => (HWO.out.core.ls j hj).lt
  have HLTR : Hid (∀ j, j < m → rs j < wo.heap.size) := fun j hj => (HWO.out.core.re j hj).lt
  have HB1w : Hid (Below B w w1) := (HBO.out.mono HBW.out).trans (hb1.mono HWO.out.hB)
  have HBC : Hid (B ≤ wo.heap.size ∧ wo.heap.size < w1.heap.size) := ⟨HWO.out.hB, hl1.lt⟩
  clear hl1 hb1 hC HWO o0 HB1 HBO HBW
  generalize hxl : ptrs m cs = xl at *
  generalize hxr : ptrs m rs = xr at *
  have HXL : Hid (ptrs m cs = xl) := hxl
  have HXR : Hid (ptrs m rs = xr) := hxr
  obtain ⟨al, cl, rfl⟩ := own_slice hR.rl
  obtain ⟨ar, cr, rfl⟩ := own_slice hR.rr
  have HR1 : Hid (Rows B w1 W (.slice al xl.length cl) (.slice ar xr.length cr) vp vq vx vy n xl xr (P.map (·.1)) (Q.map (·.1)) (X.map (·.1)) (Y.map (·.1))) := hR
  have d0 : w1.cell? ⟨W, 0, none⟩ = some (.slice al xl.length cl) := hR.cells.1
  have HV0 : Hid ((w1.alloc (.cells #[ptr wo.heap.size] 40)).ownsRow B 40 1 (.slice al xl.length cl) xl.length xl) := own_here hR.rl (below_new _ _)
  generalize hbc : wo.heap.size = bc at *
  clear hR hxl hxr hbc
  go_upto_region 4 with (
    at_builtin
    refine wpList_append_lies _ rfl _ _ 25 rfl B 40 i1 _ 1 8 Try.underlying25 hi1 y0 y1 y2 rfl (by decide) (.slice al xl.length cl) xl.length xl rfl HV0.out ⟨w1.heap.size, 0, none⟩ 1 1 [ptr bc] rfl rfl new_cell (fun u hu => by simp at hu; subst hu; rfl) (by decide) (by have := HXM.out.1; have := HMB.out; unfold maxLen; omega) (by have := HXM.out.1; have := HMB.out; omega) (Nat.le_trans HBB.out (below_new w1 _).size) _ rfl ?_
    intro g1 k1 w2 ho hg hat hlt
    obtain ⟨q0, q1, q2⟩ := HR1.out.push_l ho hg hat
    have e0 : w2.cell? ⟨W, 0, none⟩ = some (.slice al xl.length cl) := by rw [row_cell q0]; rfl
    have e1 : w2.frozen? ⟨W, 0, none⟩ = false := row_frozen q0 _
    have HQ1 : Hid _ := (⟨q1, q2⟩ : _ ∧ _)
    clear ho hg hat hlt q0 q1 q2)
  generalize w2.setCell ⟨W, 0, none⟩ (.slice (some ⟨g1, 0, none⟩) (xl.length + 1) k1) = w3 at *
  clear d0 e0 e1
  have d1 : w3.cell? ⟨W, 1, none⟩ = some (.slice ar xr.length cr) := HQ1.out.1.cells.2.1
  have HBB3 : Hid (B ≤ w3.heap.size) := Nat.le_trans HBB.out HQ1.out.2.size
  have hWl : W < w3.heap.size := (Array.getElem?_eq_some_iff.1 HQ1.out.1.head).1
  have HNC : Hid (∀ q, q = w3.drew → Calls Try.prog 22 #[] q fun r w' => r = .returned (ptr w3.heap.size) ∧ (RefAt w3.heap.size w' w3.heap.size (.slice none 0 0) [] ∧ Below w3.heap.size w3 w')) := fun q hq => by
    rw [hq]
    refine (refNew_any _).mono ?_
    rintro r w4 ⟨rfl, hr4, hb4, hs4⟩
    exact ⟨rfl, hr4, (below_drew (Below.refl _ _)).trans hb4⟩
  go_region_law
    (first
      | (refine step_call0 (by rfl) 22 (Go.Proofs.enters_of Try.func22 (by kernel_rfl) rfl) (by rfl) (ptr w3.heap.size) (fun w' => RefAt w3.heap.size w' w3.heap.size (.slice none 0 0) [] ∧ Below w3.heap.size w3 w') (by exact HNC.out _ rfl) ?_
         rintro w4 ⟨hr4, hb4⟩
         have HB4 : Hid (Below w3.heap.size w3 w4) := hb4
         have HR4 : Hid (RefAt w3.heap.size w4 w3.heap.size (.slice none 0 0) []) := hr4
         have d2 := (below_cell HB4.out hWl).trans d1
         have d3 := (below_cell (below_new w4 (.cells #[ptr w3.heap.size] 58)) (Nat.lt_of_lt_of_le hWl (Below.size HB4.out))).trans d2
         have HW4 : Hid (Rows B w4 W (.slice (some ⟨g1, 0, none⟩) (xl.length + 1) k1) (.slice ar xr.length cr) vp vq vx vy n (xl ++ [ptr bc]) xr (P.map (·.1)) (Q.map (·.1)) (X.map (·.1)) (Y.map (·.1))) := HQ1.out.1.below HB4.out
         have HV1 : Hid ((w4.alloc (.cells #[ptr w3.heap.size] 58)).ownsRow B 58 1 (.slice ar xr.length cr) xr.length xr) := own_here HW4.out.rr (below_new _ _)
         have HBB4 : Hid (B ≤ w4.heap.size) := Nat.le_trans HBB3.out (Below.size HB4.out)
         clear hr4 hb4)
      | (refine step_append_lies _ (by rfl) _ _ 26 (by rfl) B 58 i2 _ 1 8 Try.underlying26 hi2 z0 z1 z2 rfl (by decide) (.slice ar xr.length cr) xr.length xr (by rfl) (by exact HV1.out) ⟨w4.heap.size, 0, none⟩ 1 1 [ptr w3.heap.size] (by rfl) rfl (by exact new_cell) (fun u hu => by simp at hu; subst hu; rfl) (by decide) (by have := HXM.out.2; have := HMB.out; unfold maxLen; omega) (by have := HXM.out.2; have := HMB.out; omega) (Nat.le_trans HBB4.out (below_new w4 _).size) _ rfl ?_
         intro g2 k2 w5 ho hg hat hlt
         obtain ⟨q0, q1, q2⟩ := HW4.out.push_r ho hg hat
         have e0 : w5.cell? ⟨W, 1, none⟩ = some (.slice ar xr.length cr) := by rw [row_cell q0]; rfl
         have e1 : w5.frozen? ⟨W, 1, none⟩ = false := row_frozen q0 _
         have HQ2 : Hid _ := (⟨q1, q2⟩ : _ ∧ _)
         clear ho hg hat hlt q0 q1 q2))
  all_goals
    go_wp2_with fail
    go_ret
    refine ⟨rfl, ⟨at_ cs m bc, at_ rs m w3.heap.size, at_ va m (.slice none 0 0), at_ vb m (.slice none 0 0), ?_⟩, ?_⟩
    · exact new_end HC1.out HXL.out HXR.out HL1.out HBC.out HLTC.out HLTR.out HR1.out HQ1.out HB4.out HR4.out HQ2.out
    · exact HB1w.out.trans (new_low HR1.out HBB.out HQ1.out HB4.out HQ2.out)
end Go.Proofs.Ytcfmcakdgamdmaa
