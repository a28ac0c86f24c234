/- anew: an entry of new memory. -/
import Derived.Test.YtgifnaahahfhbaaShown
import Derived.Deep.RegionLaw
namespace Go.Proofs.Ytgifnaahahfhbaa
open Go.RowKit

/-- Bytes put behind bytes of new memory, as a step of a region that draws its order. -/
theorem step_append_key {w : World} {ops : Array Oper} {o : Oper} {a : Act} {K : Act → World → Prop} {Q : Exit → Act → World → Prop} {E : Prop} (hgd : o.guard = none) (s x : Operand)
    (ho : o.op = .call { callee := .builtin .append, args := #[s, x], argTypes := #[39, 39] }) (base : Nat)
    (v u : Value) (ks bs : Key) (hs : a.eval s = v) (hv : NewKey base w v ks) (hx : a.eval x = u) (hu : KeyAt w u bs)
    (hlen : ks.length + bs.length ≤ 140737488355328) (hbase : base ≤ w.heap.size)
    (h : ∀ v' w', NewKey base w' v' (ks ++ bs) → Keeps base w w' → w.grownBy w' v.ownBlock → K (a.put o.dst v') w') :
    if Region.wanted o (yielded ops a.tmps) = true then Oper.wp Try.prog o a w K Q else E := by
  have hw : Region.wanted o (yielded ops a.tmps) = true := by simp [Region.wanted, hgd]
  rw [if_pos hw]
  obtain ⟨i0, hi, hz0, hz1, hz2⟩ := info5'
  obtain ⟨⟨ao, c, rfl, hb, hc, hn⟩, hl⟩ := hu
  cases ao with
  | none =>
    have h0 : bs = [] := by
      cases bs with
      | nil => rfl
      | cons b r => obtain ⟨_, _, e, _⟩ := hb 0 b rfl; cases e
    subst h0
    obtain rfl := hn rfl
    have hrun := run_append_owned_none (P := Try.prog) (w := w) base 39 o.type 5 i0 1 Try.underlying39 hi _ _ _ hv.1
    have hx' : a.eval x = .slice none 0 0 := hx
    have := h v w (by rw [List.append_nil]; exact hv) (Keeps.refl _ _) ⟨rfl, rfl, rfl, Nat.le_refl _, fun _ _ _ => rfl⟩
    unfold Oper.wp
    simp [execOp, ho, resolve, invoke, builtin, hs, hx', hrun, Result.andThen]
    exact this
  | some ad =>
    refine wp_append_own w s x 39 ho base 5 i0 (.int .u8 0) 1 1 Try.underlying39 hi hz0 hz1 hz2 rfl (by decide) _ _ _ hs hv.1 ad bs.length c (bs.map encB) hx (by simp) ?_ ?_ (by unfold maxLen; omega) (by omega) hbase ?_
    · intro j u hj
      rw [List.getElem?_map] at hj
      cases e : bs[j]? with
      | none => rw [e] at hj; cases hj
      | some b =>
        rw [e] at hj
        cases hj
        obtain ⟨g', off, e1, _, hc⟩ := hb j b e
        cases e1
        rw [add_at]
        exact hc
    · intro u hu
      obtain ⟨b, _, rfl⟩ := List.mem_map.1 hu
      rfl
    · intro v' w' hown hgr _
      refine h v' w' ⟨?_, by rw [List.length_append]; exact hlen⟩ (Keeps.grown hv hgr hbase) hgr
      rw [List.length_append, List.map_append]
      exact hown

theorem infoEs : (Try.prog.info? 47).map (·.size) = some 2 := by kernel_rfl
theorem ret_ent {fn : Func} {p : Tmp} (h : fn.results = #[.cell p 47]) {tmps : Array Value} {w : World} {b : Nat} {x y : Value} (hp : tmps.getD p undef = .pointer (some ⟨b, 0, none⟩)) (hB : EBox w b x y) :
    (results fn tmps).run Try.prog w = .ok (.agg #[x, y]) w :=
  results_cell_row h tmps w b 47 #[x, y] (0, 0) _ hp hB.row Try.underlying47 rfl infoEs
theorem EBox.put {w : World} {b : Nat} {x y : Value} (h : EBox w b x y) (x' y' : Value) : EBox ((w.setCell ⟨b, 0, none⟩ x').setCell ⟨b, 1, none⟩ y') b x' y' := ⟨heap_set_same y' (heap_set_same x' h.row)⟩
theorem EBox.keep2 {B : Nat} {w : World} {b : Nat} {x y : Value} (h : EBox w b x y) (hB : B ≤ b) (x' y' : Value) : Keep 47 B w ((w.setCell ⟨b, 0, none⟩ x').setCell ⟨b, 1, none⟩ y') :=
  (keep_set h.row hB x').trans (keep_set (heap_set_same x' h.row) hB y')
/-- An entry's value. -/
structure EntAt (w : World) (v : Value) (e : En) : Prop where
  is : ∃ v1 v2, v = .agg #[v1, v2] ∧ KeyAt w v1 e.k ∧ KeyAt w v2 e.v
theorem EntAt.here {w w' : World} {v : Value} {e : En} (h : EntAt w v e) (hb : Below w.heap.size w w') : EntAt w' v e := by
  obtain ⟨v1, v2, rfl, h1, h2⟩ := h.is
  exact ⟨v1, v2, rfl, h1.here hb, h2.here hb⟩
theorem It.Ok.ent {w : World} {x : It} (h : x.Ok w.heap.size w) : EntAt w (.agg #[x.v1, x.v2]) x.e := ⟨_, _, rfl, h.k.at (Nat.le_refl _), h.v.at (Nat.le_refl _)⟩

set_option maxHeartbeats 1600000 in
set_option maxRecDepth 100000 in
theorem anew_any {w : World} {v : Value} {e : En} (h : EntAt w v e) :
    Calls Try.prog 52 #[v] w fun r w' => ∃ y : It, r = .returned (.agg #[y.v1, y.v2]) ∧ y.e = e ∧ NewEnt w.heap.size w' y ∧ Below w.heap.size w w' := by
  obtain ⟨v1, v2, rfl, h1, h2⟩ := h.is
  obtain ⟨a1, c1, rfl⟩ := h1.in.form
  obtain ⟨a2, c2, rfl⟩ := h2.in.form
  obtain ⟨W, hW⟩ : ∃ W, W = (w.alloc (.cells #[.slice a1 e.k.length c1, .slice a2 e.v.length c2] 47)).alloc (.cells #[.slice none 0 0, .slice none 0 0] 47) := ⟨_, rfl⟩
  have HBW : Hid (Below w.heap.size w W) := by rw [hW]; exact (below_new w _).alloc (by simp) _
  have HX0 : Hid (EBox W w.heap.size (.slice a1 e.k.length c1) (.slice a2 e.v.length c2)) := by rw [hW]; exact (EBox.new _ _ _).here (below_new _ _)
  have HX1 : Hid (EBox W (w.heap.size + 1) (.slice none 0 0) (.slice none 0 0)) := by
    rw [hW]
    have := EBox.new (w.alloc (.cells #[.slice a1 e.k.length c1, .slice a2 e.v.length c2] 47)) (.slice none 0 0) (.slice none 0 0)
    show EBox _ _ _ _
    simpa using this
  have HK1 : Hid (KeyAt W (.slice a1 e.k.length c1) e.k) := h1.here HBW.out
  have HK2 : Hid (KeyAt W (.slice a2 e.v.length c2) e.v) := h2.here HBW.out
  have hs1 := h1.short
  have hs2 := h2.short
  have hwW := HBW.out.size
  clear h h1 h2
  go_enter Try.func52, Try.ntmps52
  go_wp2_with fail
  rw [← hW]
  clear hW
  obtain ⟨k0, k1⟩ := HX0.out.cells
  go_region_held_law (fun W' => W'.cell? ⟨w.heap.size, 0, none⟩ = some (.slice a1 e.k.length c1) ∧ W'.cell? ⟨w.heap.size, 1, none⟩ = some (.slice a2 e.v.length c2)) (first | go_keep | (refine ⟨?_, ?_⟩ <;> assumption))
    (first
      | (refine step_append_key (by rfl) _ _ (by rfl) W.heap.size (.slice none 0 0) (.slice a1 e.k.length c1) [] e.k (by rfl) (NewKey.nil _ _) (by rfl) (HK1.out.draws 1) (by simp; omega) (Nat.le_refl _) ?_
         intro x1 w1 hx1 hk1 _
         have HV1 : Hid (NewKey W.heap.size w1 x1 e.k) := hx1
         have HB1 : Hid (Below W.heap.size W w1) := ((Below.refl _ _).drew).trans hk1.low
         obtain ⟨b1, l1, d1, e1⟩ := hx1.shape
         subst e1
         clear hx1 hk1
         obtain ⟨m0, m1⟩ := (HX0.out.here HB1.out).cells)
      | (refine step_append_key (by rfl) _ _ (by rfl) w1.heap.size (.slice none 0 0) (.slice a2 e.v.length c2) [] e.v (by rfl) (NewKey.nil _ _) (by rfl) (HK2.out.here HB1.out) (by simp; omega) (Nat.le_refl _) ?_
         intro x2 w2 hx2 hk2 _
         have HV2 : Hid (NewKey w1.heap.size w2 x2 e.v) := hx2
         have HB2 : Hid (Below w1.heap.size w1 w2) := hk2.low
         obtain ⟨b2, l2, d2, e2⟩ := hx2.shape
         subst e2
         clear hx2 hk2
         obtain ⟨m0', m1'⟩ := ((HX0.out.here HB1.out).here HB2.out).cells
         obtain ⟨r0, r1⟩ := ((HX1.out.here HB1.out).here HB2.out).cells
         obtain ⟨f0, f1⟩ := ((HX1.out.here HB1.out).here HB2.out).open))
  go_wp2
  have hx2 := (HX1.out.here HB1.out).here HB2.out
  have hkp := hx2.keep2 (B := w.heap.size) (Nat.le_succ _) (.slice b1 l1 d1) (.slice b2 l2 d2)
  refine bodyPost_ret (ret_ent rfl rfl (hx2.put _ _)) rfl ⟨⟨.slice b1 l1 d1, .slice b2 l2 d2, e⟩, rfl, rfl, ⟨?_, ?_, ?_⟩, ?_⟩
  · exact ((HV1.out.mono hwW).here HB2.out).keep hkp (by decide)
  · exact (HV2.out.mono (Nat.le_trans hwW HB1.out.size)).keep hkp (by decide)
  · intro b h1 h2
    have h3 := (own_type HV1.out.own b h1).1
    have h4 := (own_type HV2.out.own b h2).2.1
    omega
  · exact ((HBW.out.trans (HB1.out.mono hwW)).trans (HB2.out.mono (Nat.le_trans hwW HB1.out.size))).trans hkp.low
end Go.Proofs.Ytgifnaahahfhbaa
