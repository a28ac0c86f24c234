/- A range in its form, of new memory; a range that is stretched. -/
import Derived.Test.YtaehchijeinloaaSmall
import Derived.Deep.RegionWith
import Derived.Deep.RegionLaw
namespace Go.Proofs.Ytaehchijeinloaa
open Go.RowKit

/-- A block that holds a range. -/
structure Box (w : World) (b : Nat) (x y z : Value) : Prop where
  row : w.heap[b]? = some (.cells #[x, y, z] 47 (0, 0))
theorem Box.lt {w : World} {b : Nat} {x y z : Value} (h : Box w b x y z) : b < w.heap.size := (Array.getElem?_eq_some_iff.1 h.row).1
theorem Box.cells {w : World} {b : Nat} {x y z : Value} (h : Box w b x y z) : w.cell? ⟨b, 0, none⟩ = some x ∧ w.cell? ⟨b, 1, none⟩ = some y ∧ w.cell? ⟨b, 2, none⟩ = some z :=
  ⟨by rw [row_cell h.row]; rfl, by rw [row_cell h.row]; rfl, by rw [row_cell h.row]; rfl⟩
theorem Box.open {w : World} {b : Nat} {x y z : Value} (h : Box w b x y z) : w.frozen? ⟨b, 0, none⟩ = false ∧ w.frozen? ⟨b, 1, none⟩ = false ∧ w.frozen? ⟨b, 2, none⟩ = false :=
  ⟨row_frozen h.row _, row_frozen h.row _, row_frozen h.row _⟩
theorem Box.here {w w' : World} {b : Nat} {x y z : Value} (h : Box w b x y z) (hb : Below w.heap.size w w') : Box w' b x y z := ⟨by rw [hb.block b h.lt]; exact h.row⟩
theorem Box.below {B : Nat} {w w' : World} {b : Nat} {x y z : Value} (h : Box w b x y z) (hb : Below B w w') (hl : b < B) : Box w' b x y z := ⟨by rw [hb.block b hl]; exact h.row⟩
theorem Box.new (w : World) (x y z : Value) : Box (w.alloc (.cells #[x, y, z] 47)) w.heap.size x y z := ⟨heap_alloc_last _ _⟩
theorem Box.alloc {w : World} {b : Nat} {x y z : Value} (h : Box w b x y z) (o : Obj) : Box (w.alloc o) b x y z := h.here (below_new w o)
theorem Box.set0 {w : World} {b : Nat} {x y z : Value} (h : Box w b x y z) (v : Value) : Box (w.setCell ⟨b, 0, none⟩ v) b v y z := ⟨heap_set_same v h.row⟩
theorem Box.set1 {w : World} {b : Nat} {x y z : Value} (h : Box w b x y z) (v : Value) : Box (w.setCell ⟨b, 1, none⟩ v) b x v z := ⟨heap_set_same v h.row⟩
theorem Box.set2 {w : World} {b : Nat} {x y z : Value} (h : Box w b x y z) (v : Value) : Box (w.setCell ⟨b, 2, none⟩ v) b x y v := ⟨heap_set_same v h.row⟩
theorem Box.other {w : World} {b c i : Nat} {x y z : Value} (h : Box w b x y z) (v : Value) (hc : b ≠ c) : Box (w.setCell ⟨c, i, none⟩ v) b x y z := ⟨by rw [heap_set_other v hc]; exact h.row⟩

theorem key_one {w : World} {v : Value} {k : Key} (h : KeyAt w v k) : v.oneCell' = true := by
  obtain ⟨⟨a, c, rfl, _⟩, _⟩ := h; rfl
theorem NewKey.apart {base base' : Nat} {w w' : World} {v v' : Value} {k k' : Key} (h : NewKey base w v k) (h' : NewKey base' w' v' k') (hb : w.heap.size ≤ base') : ∀ b, v.ownBlock = some b → v'.ownBlock ≠ some b := fun b hv hv' => by
  have h1 := (own_type h.1 b hv).1
  have h2 := (own_type h'.1 b hv').2.1
  omega

theorem cell_far {w : World} {b c i j : Nat} {v : Value} (h : b ≠ c) : (w.setCell ⟨c, i, none⟩ v).cell? ⟨b, j, none⟩ = w.cell? ⟨b, j, none⟩ := World.cell?_of_block (a := ⟨b, j, none⟩) (heap_set_other v h)
/-- A range that is stored whole. -/
def put3 (w : World) (b : Nat) (x y z : Value) : World := ((w.setCell ⟨b, 0, none⟩ x).setCell ⟨b, 1, none⟩ y).setCell ⟨b, 2, none⟩ z
theorem put3_box {w : World} {b : Nat} {x y z x' y' z' : Value} (h : Box w b x y z) : Box (put3 w b x' y' z') b x' y' z' := ((h.set0 x').set1 y').set2 z'
theorem put3_other {w : World} {b k : Nat} (x y z : Value) (hk : k ≠ b) : (put3 w b x y z).heap[k]? = w.heap[k]? := by
  unfold put3; rw [heap_set_other _ hk, heap_set_other _ hk, heap_set_other _ hk]
theorem put3_size (w : World) (b : Nat) (x y z : Value) : (put3 w b x y z).heap.size = w.heap.size := by simp [put3]
theorem put3_below {B b : Nat} {a w : World} (h : Below B a w) (hb : B ≤ b) (x y z : Value) : Below B a (put3 w b x y z) := ((h.setCell hb _).setCell hb _).setCell hb _
theorem tag_ne {w : World} {b k : Nat} {c c' : Array Value} {t t' : TypeId} (h : w.heap[b]? = some (.cells c t (0, 0))) (h' : w.heap[k]? = some (.cells c' t' (0, 0))) (ht : t ≠ t') : b ≠ k := fun e => by
  subst e
  rw [h] at h'
  cases h'
  exact ht rfl
theorem NewKey.put3 {base : Nat} {w : World} {v : Value} {k : Key} {b : Nat} {x y z : Value} (h : NewKey base w v k) (hB : Box w b x y z) (x' y' z' : Value) : NewKey base (put3 w b x' y' z') v k :=
  ⟨own_same h.1 fun g hg _ => by
    obtain ⟨_, _, cur, hc⟩ := own_type h.1 g hg
    exact put3_other _ _ _ (tag_ne hc hB.row (by decide)), h.2⟩
theorem info36 : (Try.prog.info? 47).map (·.size) = some 3 := by kernel_rfl
theorem ret_box {fn : Func} {p : Tmp} (h : fn.results = #[.cell p 47]) {tmps : Array Value} {w : World} {b : Nat} {x y z : Value} (hp : tmps.getD p undef = .pointer (some ⟨b, 0, none⟩)) (hB : Box w b x y z) :
    (results fn tmps).run Try.prog w = .ok (.agg #[x, y, z]) w :=
  results_cell_row h tmps w b 47 #[x, y, z] (0, 0) _ hp hB.row Try.underlying47 rfl info36
theorem NewKey.set {base : Nat} {w : World} {v : Value} {k : Key} {b i : Nat} {x y z : Value} (h : NewKey base w v k) (hB : Box w b x y z) (u : Value) : NewKey base (w.setCell ⟨b, i, none⟩ u) v k :=
  ⟨own_same h.1 fun g hg _ => by
    obtain ⟨_, _, cur, hc⟩ := own_type h.1 g hg
    exact heap_set_other _ (tag_ne hc hB.row (by decide)), h.2⟩

set_option maxHeartbeats 1600000 in
set_option maxRecDepth 100000 in
theorem form_any {w : World} {v : Value} {r : Rg} (h : RangeAt w v r) :
    Calls Try.prog 57 #[v] w fun e w' => ∃ v', e = .returned v' ∧ NewRange w.heap.size w' v' r.form ∧ Below w.heap.size w w' := by
  obtain ⟨v1, v2, rfl, h1, h2⟩ := h.is
  obtain ⟨lo, hi, all⟩ := r
  obtain ⟨⟨a, c, rfl, hb, hx⟩, hl⟩ := h1
  obtain ⟨⟨a', c', rfl, hb', hx'⟩, hl'⟩ := h2
  simp only at *
  have HE0 : Hid (RangeAt w (.agg #[.slice a lo.length c, .slice a' hi.length c', .bool all]) ⟨lo, hi, all⟩) := h
  have HK1 : Hid (KeyAt w (.slice a lo.length c) lo) := ⟨⟨a, c, rfl, hb, hx⟩, hl⟩
  have HK2 : Hid (KeyAt w (.slice a' hi.length c') hi) := ⟨⟨a', c', rfl, hb', hx'⟩, hl'⟩
  clear h hb hb' hx hx' hl hl'
  go_enter Try.func57, Try.ntmps57
  go_wp2_with fail
  obtain ⟨W, hW⟩ : ∃ W, W = ((w.alloc (.cells #[.slice a lo.length c, .slice a' hi.length c', .bool all] 47)).alloc (.cells #[.slice none 0 0, .slice none 0 0, .bool false] 47)).alloc (.cells #[.slice none 0 0, .slice none 0 0, .bool false] 47) := ⟨_, rfl⟩
  rw [← hW]
  have hbW : Below w.heap.size w W := by rw [hW]; exact ((below_new w _).alloc (by simp) _).alloc (by simp; omega) _
  have hsW : W.heap.size = w.heap.size + 3 := by rw [hW]; simp
  have hx0 : Box W w.heap.size (.slice a lo.length c) (.slice a' hi.length c') (.bool all) := by rw [hW]; exact ((Box.new w _ _ _).alloc _).alloc _
  have hx2 : Box W (w.heap.size + 2) (.slice none 0 0) (.slice none 0 0) (.bool false) := by
    rw [hW]
    have := Box.new ((w.alloc (.cells #[.slice a lo.length c, .slice a' hi.length c', .bool all] 47)).alloc (.cells #[.slice none 0 0, .slice none 0 0, .bool false] 47)) (.slice none 0 0) (.slice none 0 0) (.bool false)
    simpa using this
  have hx1 : Box W (w.heap.size + 1) (.slice none 0 0) (.slice none 0 0) (.bool false) := by
    rw [hW]
    have := (Box.new (w.alloc (.cells #[.slice a lo.length c, .slice a' hi.length c', .bool all] 47)) (.slice none 0 0) (.slice none 0 0) (.bool false)).alloc (.cells #[.slice none 0 0, .slice none 0 0, .bool false] 47)
    simpa using this
  have HBW : Hid (Below w.heap.size w W) := hbW
  have HX0 : Hid (Box W w.heap.size (.slice a lo.length c) (.slice a' hi.length c') (.bool all)) := hx0
  have HX1 : Hid (Box W (w.heap.size + 1) (.slice none 0 0) (.slice none 0 0) (.bool false)) := hx1
  have HX2 : Hid (Box W (w.heap.size + 2) (.slice none 0 0) (.slice none 0 0) (.bool false)) := hx2
  have HSW : Hid (W.heap.size = w.heap.size + 3) := hsW
  clear hW
  refine (empty_any (HE0.out.here hbW)).mono ?_
  rintro _ w1 ⟨rfl, hb1⟩
  clear hbW hx0 hx1 hx2 hsW
  have HB1 : Hid (Below W.heap.size W w1) := hb1
  have hy0 := HX0.out.here hb1
  have hy1 := HX1.out.here hb1
  have hy2 := HX2.out.here hb1
  have HY0 : Hid (Box w1 w.heap.size (.slice a lo.length c) (.slice a' hi.length c') (.bool all)) := hy0
  have HY1 : Hid (Box w1 (w.heap.size + 1) (.slice none 0 0) (.slice none 0 0) (.bool false)) := hy1
  have HY2 : Hid (Box w1 (w.heap.size + 2) (.slice none 0 0) (.slice none 0 0) (.bool false)) := hy2
  have HBW1 : Hid (Below w.heap.size w w1) := HBW.out.trans (hb1.mono (by rw [HSW.out]; omega))
  obtain ⟨b0, hb0⟩ : ∃ b0, b0 = w.heap.size := ⟨_, rfl⟩
  obtain ⟨k0, k1, k2⟩ := hy0.cells
  obtain ⟨m0, m1, m2⟩ := hy2.cells
  obtain ⟨f0, f1, f2⟩ := hy2.open
  obtain ⟨r0, r1, r2⟩ := hy1.cells
  obtain ⟨g0, g1, g2⟩ := hy1.open
  have l2 := hy2.lt
  clear hb1 hy0 hy1 hy2
  cases he : Rg.empty ⟨lo, hi, all⟩ with
  | true =>
    have HF : Hid (Rg.form ⟨lo, hi, all⟩ = Rg.zero) := by simp [Hid, Rg.form, he]
    clear he
    go_wp2
    refine bodyPost_ret (ret_box rfl rfl (put3_box HY1.out)) rfl ⟨_, rfl, ?_, put3_below HBW1.out (by omega) _ _ _⟩
    rw [HF.out]
    exact NewRange.zero _ _
  | false =>
    cases all with
    | true =>
      have HF : Hid (Rg.form ⟨lo, hi, true⟩ = ⟨lo, [], true⟩) := by simp [Hid, Rg.form, he]
      clear he
      go_wp2_with fail
      go_region_held_law (fun W' => W'.cell? ⟨w.heap.size, 0, none⟩ = some (.slice a lo.length c) ∧ W'.cell? ⟨w.heap.size, 2, none⟩ = some (.bool true)) (first | go_keep | (constructor <;> ((repeat rw [cell_far (by omega)]); assumption)))
        (first
          | (go_at_call 66; refine (anew_any ((HK1.out.here HBW1.out).here ((Below.refl _ w1).drew))).mono ?_
             rintro _ w2 ⟨u, rfl, hu, hb2⟩
             obtain ⟨a2, c2, rfl, _, _⟩ := hu.at.is
             have HU : Hid _ := hu
             have HB2 : Hid (Below w1.heap.size w1 w2) := ((Below.refl _ w1).drew).trans hb2
             clear hu hb2
             obtain ⟨p0, _, p2⟩ := (HY0.out.here HB2.out).cells
             obtain ⟨q0, q1, q2⟩ := (HY2.out.here HB2.out).cells
             obtain ⟨o0, o1, o2⟩ := (HY2.out.here HB2.out).open))
      have hz1 := (HY1.out.here HB2.out).other (c := w.heap.size + 2) (i := 0) (.slice a2 lo.length c2) (by omega)
      have hz1 := hz1.other (c := w.heap.size + 2) (i := 2) (.bool true) (by omega)
      have hz2 := ((HY2.out.here HB2.out).set0 (.slice a2 lo.length c2)).set2 (.bool true)
      have hz3 := (HU.out.set (HY2.out.here HB2.out) (i := 0) (.slice a2 lo.length c2)).set ((HY2.out.here HB2.out).set0 (.slice a2 lo.length c2)) (i := 2) (.bool true)
      have hz4 : Below w.heap.size w ((w2.setCell ⟨w.heap.size + 2, 0, none⟩ (.slice a2 lo.length c2)).setCell ⟨w.heap.size + 2, 2, none⟩ (.bool true)) := ((HBW1.out.trans (HB2.out.mono HBW1.out.size)).setCell (by show _ ≤ _ + 2; omega) _).setCell (by show _ ≤ _ + 2; omega) _
      obtain ⟨w3, hw3⟩ : ∃ w3, w3 = (w2.setCell ⟨w.heap.size + 2, 0, none⟩ (.slice a2 lo.length c2)).setCell ⟨w.heap.size + 2, 2, none⟩ (.bool true) := ⟨_, rfl⟩
      rw [← hw3] at hz1 hz2 hz3 hz4 ⊢
      have HZ1 : Hid _ := hz1
      have HZ3 : Hid _ := hz3
      have HZ4 : Hid _ := hz4
      clear hw3 k0 k1 k2 m0 m1 m2 f0 f1 f2 r0 r1 r2 g0 g1 g2 p0 p2 q0 q1 q2 o0 o1 o2 l2
      obtain ⟨m0, m1, m2⟩ := hz2.cells
      obtain ⟨r0, r1, r2⟩ := hz1.cells
      obtain ⟨g0, g1, g2⟩ := hz1.open
      clear hz1 hz2 hz3 hz4
      go_wp2
      refine bodyPost_ret (ret_box rfl rfl (put3_box HZ1.out)) rfl ⟨_, rfl, ?_, put3_below HZ4.out (by omega) _ _ _⟩
      rw [HF.out]
      exact ⟨_, _, rfl, (HZ3.out.mono HBW1.out.size).put3 HZ1.out _ _ _, NewKey.nil _ _, fun k _ h => by cases h⟩
    | false =>
      have HF : Hid (Rg.form ⟨lo, hi, false⟩ = ⟨lo, hi, false⟩) := by simp [Hid, Rg.form, he]
      clear he
      go_wp2_with fail
      refine (anew_any (HK2.out.here HBW1.out)).mono ?_
      rintro _ w2 ⟨u, rfl, hu, hb2⟩
      obtain ⟨a3, c3, rfl, _, _⟩ := hu.at.is
      have hy0 := (HY0.out.here hb2)
      have hy1 := (HY1.out.here hb2)
      have hy2 := (HY2.out.here hb2)
      clear k0 k1 k2 m0 m1 m2 f0 f1 f2 r0 r1 r2 g0 g1 g2 l2
      obtain ⟨m0, m1, m2⟩ := hy2.cells
      obtain ⟨f0, f1, f2⟩ := hy2.open
      have hz0 := hy0.other (c := w.heap.size + 2) (i := 1) (.slice a3 hi.length c3) (by omega)
      have hz1 := hy1.other (c := w.heap.size + 2) (i := 1) (.slice a3 hi.length c3) (by omega)
      have hz2 := hy2.set1 (.slice a3 hi.length c3)
      have hz3 := hu.set hy2 (i := 1) (.slice a3 hi.length c3)
      have hz4 : Below w.heap.size w (w2.setCell ⟨w.heap.size + 2, 1, none⟩ (.slice a3 hi.length c3)) := (HBW1.out.trans (hb2.mono HBW1.out.size)).setCell (by show _ ≤ _ + 2; omega) _
      have HZ0 : Hid _ := hz0
      have HZ1 : Hid _ := hz1
      have HZ2 : Hid _ := hz2
      have HZ3 : Hid _ := hz3
      have HZ4 : Hid _ := hz4
      clear hz0 hz1 hz2 hz3 hz4 hy0 hy1 hy2 hu hb2
      go_wp2_with fail
      obtain ⟨w3, hw3⟩ : ∃ w3, w3 = w2.setCell ⟨w.heap.size + 2, 1, none⟩ (.slice a3 hi.length c3) := ⟨_, rfl⟩
      rw [← hw3] at HZ0 HZ1 HZ2 HZ3 HZ4 ⊢
      clear hw3 m0 m1 m2 f0 f1 f2
      obtain ⟨k0, k1, k2⟩ := HZ0.out.cells
      go_region_held_law (fun W' => W'.cell? ⟨w.heap.size, 0, none⟩ = some (.slice a lo.length c) ∧ W'.cell? ⟨w.heap.size, 2, none⟩ = some (.bool false)) (first | go_keep | (constructor <;> ((repeat rw [cell_far (by omega)]); assumption)))
        (first
          | (go_at_call 66; refine (anew_any ((HK1.out.here HZ4.out).here ((Below.refl _ w3).drew))).mono ?_
             rintro _ w4 ⟨u, rfl, hu, hb2⟩
             obtain ⟨a2, c2, rfl, _, _⟩ := hu.at.is
             have HU : Hid _ := hu
             have HB2 : Hid (Below w3.heap.size w3 w4) := ((Below.refl _ w3).drew).trans hb2
             clear hu hb2
             obtain ⟨p0, _, p2⟩ := (HZ0.out.here HB2.out).cells
             obtain ⟨q0, q1, q2⟩ := (HZ2.out.here HB2.out).cells
             obtain ⟨o0, o1, o2⟩ := (HZ2.out.here HB2.out).open))
      have hz1 := ((HZ1.out.here HB2.out).other (c := w.heap.size + 2) (i := 0) (.slice a2 lo.length c2) (by omega)).other (c := w.heap.size + 2) (i := 2) (.bool false) (by omega)
      have hz2 := ((HZ2.out.here HB2.out).set0 (.slice a2 lo.length c2)).set2 (.bool false)
      have hz3 := (HU.out.set (HZ2.out.here HB2.out) (i := 0) (.slice a2 lo.length c2)).set ((HZ2.out.here HB2.out).set0 (.slice a2 lo.length c2)) (i := 2) (.bool false)
      have hz5 := ((HZ3.out.here HB2.out).set (HZ2.out.here HB2.out) (i := 0) (.slice a2 lo.length c2)).set ((HZ2.out.here HB2.out).set0 (.slice a2 lo.length c2)) (i := 2) (.bool false)
      have hz4 : Below w.heap.size w ((w4.setCell ⟨w.heap.size + 2, 0, none⟩ (.slice a2 lo.length c2)).setCell ⟨w.heap.size + 2, 2, none⟩ (.bool false)) := ((HZ4.out.trans (HB2.out.mono HZ4.out.size)).setCell (by show _ ≤ _ + 2; omega) _).setCell (by show _ ≤ _ + 2; omega) _
      have HAP : Hid (∀ b, (Value.slice a3 hi.length c3).ownBlock = some b → (Value.slice a2 lo.length c2).ownBlock ≠ some b) := NewKey.apart HZ3.out HU.out (Nat.le_refl _)
      obtain ⟨w5, hw5⟩ : ∃ w5, w5 = (w4.setCell ⟨w.heap.size + 2, 0, none⟩ (.slice a2 lo.length c2)).setCell ⟨w.heap.size + 2, 2, none⟩ (.bool false) := ⟨_, rfl⟩
      rw [← hw5] at hz1 hz2 hz3 hz4 hz5 ⊢
      have HY1 : Hid _ := hz1
      have HY3 : Hid _ := hz3
      have HY4 : Hid _ := hz4
      have HY5 : Hid _ := hz5
      clear hw5 k0 k1 k2 p0 p2 q0 q1 q2 o0 o1 o2
      obtain ⟨m0, m1, m2⟩ := hz2.cells
      obtain ⟨r0, r1, r2⟩ := hz1.cells
      obtain ⟨g0, g1, g2⟩ := hz1.open
      clear hz1 hz2 hz3 hz4 hz5
      go_wp2
      refine bodyPost_ret (ret_box rfl rfl (put3_box HY1.out)) rfl ⟨_, rfl, ?_, put3_below HY4.out (by omega) _ _ _⟩
      rw [HF.out]
      exact ⟨_, _, rfl, (HY3.out.mono HZ4.out.size).put3 HY1.out _ _ _, (HY5.out.mono HBW1.out.size).put3 HY1.out _ _ _, fun k h1 h2 => HAP.out k h2 h1⟩
end Go.Proofs.Ytaehchijeinloaa
