/- partsOf: of each message the child that it is for. -/
import Derived.Test.YtpmcpomomagkhaaChild
namespace Go.Proofs.Ytpmcpomomagkhaa
open Go.RowKit

def homes (d : Kd) (M : List Ms) : List Int := M.map fun m => ((homeN d m : Nat) : Int)
theorem homes_take {d : Kd} {M : List Ms} {i : Nat} {m : Ms} (h : M[i]? = some m) : homes d (M.take (i + 1)) = homes d (M.take i) ++ [((homeN d m : Nat) : Int)] := by
  rw [List.take_add_one, h]; simp [homes]
theorem homes_length (d : Kd) (M : List Ms) : (homes d M).length = M.length := by simp [homes]
theorem homes_get {d : Kd} {M : List Ms} {i : Nat} {m : Ms} (h : M[i]? = some m) : (homes d M)[i]? = some ((homeN d m : Nat) : Int) := by simp [homes, h]
/-- A call of a function of two arguments, as a step of a region that draws its order. -/
theorem step_call2 {w : World} {ops : Array Oper} {o : Oper} {a : Act} {K : Act → World → Prop} {Q : Exit → Act → World → Prop} {E : Prop} (hgd : o.guard = none) (N : Nat) (hE : Go.Proofs.Enters Try.prog N) (x y : Operand) (t s : TypeId)
    (ho : o.op = .call { callee := .value (.func N), args := #[x, y], argTypes := #[t, s] }) (v u : Value) (R : Value → World → Prop) (hx : a.eval x = v) (hy : a.eval y = u) (hc : Calls Try.prog N #[v, u] w fun r w' => ∃ z, r = .returned z ∧ R z w') (h : ∀ z w', R z w' → K (a.put o.dst z) w') :
    if Region.wanted o (yielded ops a.tmps) = true then Oper.wp Try.prog o a w K Q else E := by
  have hw : Region.wanted o (yielded ops a.tmps) = true := by simp [Region.wanted, hgd]
  rw [if_pos hw]
  unfold Oper.wp
  simp [execOp, ho, resolve, invoke, Deferred.ofValue, hx, hy, Br.eval_func, hE #[v, u] w]
  show Calls Try.prog N _ w _
  refine hc.mono ?_
  rintro r w' ⟨z, rfl, hr⟩
  exact h z w' hr
theorem infoPa : (Try.prog.info? 58).map (·.size) = some 4 := by kernel_rfl
theorem ret_parts {fn : Func} {p : Tmp} (h : fn.results = #[.cell p 58]) {tmps : Array Value} {w : World} {b : Nat} {x y z u : Value} (hp : tmps.getD p undef = .pointer (some ⟨b, 0, none⟩)) (hB : PBox w b x y z u) :
    (results fn tmps).run Try.prog w = .ok (.agg #[x, y, z, u]) w :=
  results_cell_row h tmps w b 58 _ (0, 0) _ hp hB.row Try.underlying58 rfl infoPa
def put4 (w : World) (b : Nat) (x y z u : Value) : World := (((w.setCell ⟨b, 0, none⟩ x).setCell ⟨b, 1, none⟩ y).setCell ⟨b, 2, none⟩ z).setCell ⟨b, 3, none⟩ u
theorem put4_box {w : World} {b : Nat} {x y z u : Value} (x' y' z' u' : Value) (h : PBox w b x y z u) : PBox (put4 w b x' y' z' u') b x' y' z' u' :=
  ⟨heap_set_same u' (heap_set_same z' (heap_set_same y' (heap_set_same x' h.row)))⟩
theorem put4_keep {B b : Nat} {w : World} {x y z u : Value} (x' y' z' u' : Value) (h : PBox w b x y z u) (hB : B ≤ b) : Keep 58 B w (put4 w b x' y' z' u') :=
  (keep_set h.row hB _).trans ((keep_set (heap_set_same _ h.row) hB _).trans ((keep_set (heap_set_same _ (heap_set_same _ h.row)) hB _).trans (keep_set (heap_set_same _ (heap_set_same _ (heap_set_same _ h.row))) hB _)))
theorem new_ints_keep {base T B : Nat} {w w' : World} {v : Value} {ps : List Int} (h : Br.NewInts base w v ps) (hk : Keep T B w w') (hT : 3 ≠ T) : Br.NewInts base w' v ps := h.keep (toBrKeep hk) hT
/-- How far the homes have been found: the result's box, the box in which they gather. -/
structure HomesTo (w wx : World) (x y z u : Value) (hs : List Int) : Prop where
  box0 : PBox wx (w.heap.size + 1) (.slice none 0 0) (.slice none 0 0) (.slice none 0 0) (.slice none 0 0)
  box1 : PBox wx (w.heap.size + 1 + 1) x y z u
  ints : Br.NewInts w.heap.size wx u hs
  low : Below w.heap.size w wx
theorem HomesTo.step {w wx w1 w2 : World} {x y z u u' : Value} {hs : List Int} {p : Int} (h : HomesTo w wx x y z u hs) (h1 : Below wx.heap.size wx w1) (hg : w1.grownBy w2 u.ownBlock) (ho : w2.ownsRow w.heap.size 3 1 u' (hs.length + 1) (hs.map Br.encI ++ [Br.encI p])) :
    PBox w2 (w.heap.size + 1 + 1) x y z u ∧ HomesTo w (w2.setCell ⟨w.heap.size + 1 + 1, 3, none⟩ u') x y z u' (hs ++ [p]) := by
  have hs' := h.low.size
  have hi1 : Br.NewInts w.heap.size w1 u hs := h.ints.here h1
  have hK0 : Keep 3 w.heap.size w1 w2 := keep_grown hi1.own hg (Nat.le_trans hs' h1.size)
  have hK : Keep 3 w.heap.size wx w2 := (Keep.of h1 hs').trans hK0
  have b1 := h.box1.keep hK (by decide)
  have b0 := h.box0.keep hK (by decide)
  have hK2 : Keep 58 w.heap.size w2 (w2.setCell ⟨w.heap.size + 1 + 1, 3, none⟩ u') := keep_set b1.row (by omega) _
  refine ⟨b1, ⟨by rw [heap_set_other _ (by omega)]; exact b0.row⟩, b1.set3 _, ⟨?_⟩, (h.low.trans hK.low).trans hK2.low⟩
  have e : (hs ++ [p]).length = hs.length + 1 := by simp
  rw [e, List.map_append]
  exact own_keep ho hK2 (by decide)
/-- What partsOf gives. -/
structure PartsPost (w : World) (x y z : Value) (hs : List Int) (r : Ending) (w' : World) : Prop where
  is : ∃ u, r = .returned (.agg #[x, y, z, u]) ∧ Br.NewInts w.heap.size w' u hs ∧ Below w.heap.size w w'
theorem HomesTo.end {w wx : World} {x y z u : Value} {hs : List Int} (h : HomesTo w wx x y z u hs) : PBox (put4 wx (w.heap.size + 1) x y z u) (w.heap.size + 1) x y z u ∧ Br.NewInts w.heap.size (put4 wx (w.heap.size + 1) x y z u) u hs ∧ Below w.heap.size w (put4 wx (w.heap.size + 1) x y z u) := by
  have hk := put4_keep (B := w.heap.size) x y z u h.box0 (by omega)
  exact ⟨put4_box _ _ _ _ h.box0, new_ints_keep h.ints hk (by decide), h.low.trans hk.low⟩
theorem infoIz' : (Try.prog.info? 3).map (fun i => (i.zero, i.size, i.bytes)) = some (some (.int .i64 0), 1, 8) := by kernel_rfl

set_option maxHeartbeats 3200000 in
set_option maxRecDepth 100000 in
theorem partsOf_any {w : World} {a1 a2 a3 : Option Addr} {c1 c2 c3 : Nat} {ps : List Int} {K : List Br.Kc} {M : List Mt} (hK : Br.KeysAt w.heap.size w (.slice a2 K.length c2) K) (hM : MsgsAt w.heap.size w (.slice a3 M.length c3) M) (hr : riseK (Br.keysOf K) = true) :
    Calls Try.prog 21 #[.agg #[.slice a1 ps.length c1, .slice a2 K.length c2, .slice a3 M.length c3]] w fun r w' => PartsPost w (.slice a1 ps.length c1) (.slice a2 K.length c2) (.slice a3 M.length c3) (homes (Br.kd ps K) (msOf M)) r w' := by
  obtain ⟨i0, hi, hz0, hz1, hz2⟩ := infoI'
  have hsh := hM.short
  have HK : Hid (Br.KeysAt w.heap.size w (.slice a2 K.length c2) K) := hK
  have HM : Hid (MsgsAt w.heap.size w (.slice a3 M.length c3) M) := hM
  obtain ⟨W, hW⟩ : ∃ W, W = ((w.alloc (.cells #[.slice a1 ps.length c1, .slice a2 K.length c2, .slice a3 M.length c3] 31)).alloc (.cells #[.slice none 0 0, .slice none 0 0, .slice none 0 0, .slice none 0 0] 58)).alloc (.cells #[.slice a1 ps.length c1, .slice a2 K.length c2, .slice a3 M.length c3, .slice none 0 0] 58) := ⟨_, rfl⟩
  have HT0 : Hid (HomesTo w W (.slice a1 ps.length c1) (.slice a2 K.length c2) (.slice a3 M.length c3) (.slice none 0 0) []) := by
    have e1 : (w.alloc (.cells #[.slice a1 ps.length c1, .slice a2 K.length c2, .slice a3 M.length c3] 31)).heap.size = w.heap.size + 1 := by simp
    have e2 : ((w.alloc (.cells #[.slice a1 ps.length c1, .slice a2 K.length c2, .slice a3 M.length c3] 31)).alloc (.cells #[.slice none 0 0, .slice none 0 0, .slice none 0 0, .slice none 0 0] 58)).heap.size = w.heap.size + 1 + 1 := by simp
    rw [Hid, hW]
    refine ⟨?_, ?_, Br.NewInts.nil _ _, ((below_new _ _).alloc (by rw [e1]; omega) _).alloc (by rw [e2]; omega) _⟩
    · have := PBox.new (w.alloc (.cells #[.slice a1 ps.length c1, .slice a2 K.length c2, .slice a3 M.length c3] 31)) (.slice none 0 0) (.slice none 0 0) (.slice none 0 0) (.slice none 0 0)
      rw [e1] at this
      exact this.here (below_new _ _)
    · have := PBox.new ((w.alloc (.cells #[.slice a1 ps.length c1, .slice a2 K.length c2, .slice a3 M.length c3] 31)).alloc (.cells #[.slice none 0 0, .slice none 0 0, .slice none 0 0, .slice none 0 0] 58)) (.slice a1 ps.length c1) (.slice a2 K.length c2) (.slice a3 M.length c3) (.slice none 0 0)
      rw [e2] at this
      exact this
  clear hK hM
  go_enter Try.func21, Try.ntmps21
  go_wp2_with fail
  rw [← hW]
  clear hW
  go_loopw [16] (fun i wx => ∃ (k : Nat) (u : Value), k ≤ M.length ∧ i = .int .i64 k ∧ HomesTo w wx (.slice a1 ps.length c1) (.slice a2 K.length c2) (.slice a3 M.length c3) u (homes (Br.kd ps K) ((msOf M).take k))) (fun i _ => M.length - (intOf i).toNat)
  case atStart => exact ⟨0, _, by omega, rfl, by simpa [homes] using HT0.out⟩
  case round =>
    obtain ⟨k, u, hk, rfl, hto⟩ := hrel
    have HTO : Hid (HomesTo w wr (.slice a1 ps.length c1) (.slice a2 K.length c2) (.slice a3 M.length c3) u (homes (Br.kd ps K) ((msOf M).take k))) := hto
    have hwr := hto.low.size
    obtain ⟨au, cu, hu⟩ : ∃ a c, u = .slice a k c := by
      obtain ⟨a, c, e⟩ := own_form' hto.ints.own
      rw [homes_length, List.length_take, msOf_length, Nat.min_eq_left hk] at e
      exact ⟨a, c, e⟩
    subst hu
    clear hto HT0
    by_cases hlt : k < M.length
    · have hz : (k : Int) < (M.length : Int) := by omega
      obtain ⟨e, he⟩ : ∃ e, M[k]? = some e := ⟨_, List.getElem?_eq_getElem hlt⟩
      have hMw := HM.out.here HTO.out.low
      obtain ⟨g, off, c', e1, k0, k1, k2, k3, k4⟩ := hMw.cells k e he
      cases e1
      have hok := hMw.ok e (List.mem_of_getElem? he)
      have HST : Hid (homes (Br.kd ps K) ((msOf M).take (k + 1)) = homes (Br.kd ps K) ((msOf M).take k) ++ [((homeN (Br.kd ps K) e.m : Nat) : Int)]) := homes_take (msOf_get he)
      obtain ⟨b1, d1, f1⟩ := hok.lo.form
      obtain ⟨b2, d2, f2⟩ := hok.hi.form
      obtain ⟨b3, d3, f3⟩ := hok.va.form
      have HLO : Hid (KeyAt wr e.v1 e.m.lo) := hok.lo.at (Nat.le_refl _)
      clear hMw hok he
      obtain ⟨v1, v2, v3, m⟩ := e
      simp only at f1 f2 f3 k0 k1 k2 k3 k4 HST HLO
      subst f1 f2 f3
      obtain ⟨W1, hW1⟩ : ∃ W1, W1 = wr.alloc (.cells #[.int .u64 (m.st : Int), .int .i64 m.kd, .slice b1 m.lo.length d1, .slice b2 m.hi.length d2, .slice b3 m.va.length d3] 48) := ⟨_, rfl⟩
      have HB1 : Hid (Below wr.heap.size wr W1) := by rw [hW1]; exact below_new _ _
      have q2 : W1.cell? ⟨wr.heap.size, 2, none⟩ = some (.slice b1 m.lo.length d1) := by rw [hW1, row_cell (heap_alloc_last wr _)]; rfl
      have hq2 : wr.heap.size < W1.heap.size := by rw [hW1]; simp
      have HCH : Hid (Calls Try.prog 40 #[.agg #[.slice a1 ps.length c1, .slice a2 K.length c2, .slice (some ⟨g, off, none⟩) M.length c3, .slice au k cu], .slice b1 m.lo.length d1] W1.drew fun r w' => ∃ z, r = .returned z ∧ (z = .int .i64 (homeN (Br.kd ps K) m : Nat) ∧ Below W1.drew.heap.size W1.drew w')) := by
        have hd : Below W1.heap.size W1 W1.drew := (Below.refl _ _).drew
        have := childOf_any (a1 := a1) (n1 := ps.length) (c1 := c1) (a3 := some ⟨g, off, none⟩) (n3 := M.length) (c3 := c3) (a4 := au) (n4 := k) (c4 := cu) (((HK.out.here HTO.out.low).here HB1.out).here hd) hr ((HLO.out.here HB1.out).here hd)
        refine this.mono ?_
        rintro r w' ⟨rfl, hb⟩
        exact ⟨_, rfl, rfl, hb⟩
      have hx1 := HTO.out.box1.here HB1.out
      obtain ⟨x0, x1, x2, x3⟩ := hx1.cells
      have HOW : Hid (∀ W', Below W1.heap.size W1 W' → W'.ownsRow w.heap.size 3 1 (.slice au k cu) k ((homes (Br.kd ps K) ((msOf M).take k)).map Br.encI)) := fun W' hb => by
        have h1 := HTO.out.ints.own
        rw [homes_length, List.length_take, msOf_length, Nat.min_eq_left hk] at h1
        exact own_same h1 fun b _ hl => (HB1.out.trans (hb.mono HB1.out.size)).block b hl
      have HD1 : Hid (Below W1.heap.size W1 W1.drew) := (Below.refl _ _).drew
      have HCE : Hid (∀ W', Below W1.heap.size W1 W' → PBox W' (w.heap.size + 1 + 1) (.slice a1 ps.length c1) (.slice a2 K.length c2) (.slice (some ⟨g, off, none⟩) M.length c3) (.slice au k cu)) := fun W' hb => hx1.here hb
      obtain ⟨H, hH⟩ : ∃ H : Nat, H = homeN (Br.kd ps K) m := ⟨_, rfl⟩
      rw [← hH] at HCH HST
      clear hH
      go_wp2_with fail
      rw [← hW1]
      clear hW1 k0 k1 k2 k3 k4 hx1
      go_region_law
        (first
          | (refine step_call2 (by rfl) 40 (Go.Proofs.enters_of Try.func40 (by kernel_rfl) rfl) _ _ _ _ (by rfl) _ _ _ (by rfl) (by rfl) (by exact HCH.out) ?_
             intro z w2 hr2
             have hb2 := hr2.2
             have hz2 := hr2.1
             subst hz2
             have HB2 : Hid (Below W1.heap.size W1 w2) := HD1.out.trans (hb2.mono HD1.out.size)
             obtain ⟨y0, y1, y2, y3⟩ := (HCE.out w2 HB2.out).cells
             have ya : ∀ o, (w2.alloc o).cell? ⟨w.heap.size + 1 + 1, 3, none⟩ = some (.slice au k cu) := fun o => ((HCE.out w2 HB2.out).here (below_new _ _)).cells.2.2.2
             have s2 : w2.cell? ⟨wr.heap.size, 2, none⟩ = some (.slice b1 m.lo.length d1) := by rw [HB2.out.cell (p := ⟨wr.heap.size, 2, none⟩) hq2]; exact q2
             clear hb2)
          | (refine step_append_lies _ (by rfl) _ _ 25 (by rfl) w.heap.size 3 i0 (.int .i64 0) 1 8 Try.underlying25 hi hz0 hz1 hz2 rfl (by decide) (.slice au k cu) k ((homes (Br.kd ps K) ((msOf M).take k)).map Br.encI) (by rfl) (by exact HOW.out _ (HB2.out.trans ((below_new _ _).mono HB2.out.size))) ⟨w2.heap.size, 0, none⟩ 1 1 [Br.encI (H : Int)] (by rfl) rfl (by exact Br.one_src w2 3 (Br.encI (H : Int))) (by intro u hu; simp at hu; subst hu; rfl) (by decide) (by unfold maxLen; omega) (by omega) (by simp; have := HB2.out.size; omega) _ rfl ?_
             intro g7 c7 w7 ho7 hg7 _ _
             have hst := HTO.out.step (p := (H : Int)) (HB1.out.trans ((HB2.out.trans ((below_new _ _).mono HB2.out.size)).mono HB1.out.size)) hg7 (by rw [homes_length, List.length_take, msOf_length, Nat.min_eq_left hk]; exact ho7)
             have HS7 : Hid _ := hst.2
             obtain ⟨t0, t1, t2, t3⟩ := hst.1.cells
             have o3 := hst.1.open 3
             clear ho7 hg7 hst))
      all_goals
        go_wp2
        exact ⟨⟨k + 1, _, by omega, by go_num, by rw [HST.out]; exact HS7.out⟩, by simp [intOf]; omega⟩
    · have hz : ¬ (k : Int) < (M.length : Int) := by omega
      have HTE : Hid (HomesTo w wr (.slice a1 ps.length c1) (.slice a2 K.length c2) (.slice a3 M.length c3) (.slice au k cu) (homes (Br.kd ps K) (msOf M))) := by
        have := HTO.out
        rw [List.take_of_length_le (by rw [msOf_length]; omega)] at this
        exact this
      obtain ⟨x0, x1, x2, x3⟩ := HTE.out.box1.cells
      obtain ⟨y0, y1, y2, y3⟩ := HTE.out.box0.cells
      have o0 := HTE.out.box0.open 0
      have o1 := HTE.out.box0.open 1
      have o2 := HTE.out.box0.open 2
      have o3 := HTE.out.box0.open 3
      have HEN : Hid _ := HTE.out.end
      go_wp2
      exact bodyPost_ret (ret_parts rfl rfl HEN.out.1) rfl ⟨_, rfl, HEN.out.2.1, HEN.out.2.2⟩
end Go.Proofs.Ytpmcpomomagkhaa
