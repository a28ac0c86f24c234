/- A message of new memory. -/
import Derived.Test.YtkjjgbaoicjbaabEnc
namespace Go.Proofs.Ytkjjgbaoicjbaab
open Go.RowKit

theorem infoMs : (Try.prog.info? 38).map (·.size) = some 5 := by kernel_rfl
theorem ret_msg {fn : Func} {p : Tmp} (h : fn.results = #[.cell p 38]) {tmps : Array Value} {w : World} {b : Nat} {e : Mt} (hp : tmps.getD p undef = .pointer (some ⟨b, 0, none⟩)) (hB : MBox w b e) :
    (results fn tmps).run Try.prog w = .ok e.val w :=
  results_cell_row h tmps w b 38 _ (0, 0) _ hp hB.row Try.underlying38 rfl infoMs
def put5 (w : World) (b : Nat) (e : Mt) : World := ((((w.setCell ⟨b, 0, none⟩ (.int .u64 (e.m.st : Int))).setCell ⟨b, 1, none⟩ (.int .i64 e.m.kd)).setCell ⟨b, 2, none⟩ e.v1).setCell ⟨b, 3, none⟩ e.v2).setCell ⟨b, 4, none⟩ e.v3
theorem put5_box {w : World} {b : Nat} {e : Mt} (x : Mt) (h : MBox w b x) : MBox (put5 w b e) b e :=
  ⟨heap_set_same e.v3 (heap_set_same e.v2 (heap_set_same e.v1 (heap_set_same (.int .i64 e.m.kd) (heap_set_same (.int .u64 (e.m.st : Int)) h.row))))⟩
theorem put5_keep {B b : Nat} {w : World} {x : Mt} (e : Mt) (h : MBox w b x) (hB : B ≤ b) : Keep 38 B w (put5 w b e) :=
  (keep_set h.row hB _).trans ((keep_set (heap_set_same _ h.row) hB _).trans ((keep_set (heap_set_same _ (heap_set_same _ h.row)) hB _).trans ((keep_set (heap_set_same _ (heap_set_same _ (heap_set_same _ h.row))) hB _).trans (keep_set (heap_set_same _ (heap_set_same _ (heap_set_same _ (heap_set_same _ h.row)))) hB _))))
theorem MBox.open {w : World} {b : Nat} {e : Mt} (h : MBox w b e) (i : Nat) : w.frozen? ⟨b, i, none⟩ = false := row_frozen h.row i
/-- A message of new memory. -/
structure NewMsg (base : Nat) (w : World) (y : Mt) : Prop where
  lo : NewKey base w y.v1 y.m.lo
  hi : NewKey base w y.v2 y.m.hi
  va : NewKey base w y.v3 y.m.va
  st : y.m.st < 18446744073709551616
  kd : -9223372036854775808 ≤ y.m.kd ∧ y.m.kd ≤ 9223372036854775807
theorem NewKey.in {base : Nat} {w : World} {v : Value} {k : Key} (h : NewKey base w v k) : KeyIn w.heap.size w v k := h.at.in
theorem NewMsg.ok {base : Nat} {w : World} {y : Mt} (h : NewMsg base w y) : y.Ok w.heap.size w := ⟨h.lo.in, h.hi.in, h.va.in, h.st, h.kd⟩
theorem NewMsg.here {base : Nat} {w w' : World} {y : Mt} (h : NewMsg base w y) (hb : Below w.heap.size w w') : NewMsg base w' y := ⟨h.lo.here hb, h.hi.here hb, h.va.here hb, h.st, h.kd⟩
theorem NewMsg.mono {base base' : Nat} {w : World} {y : Mt} (h : NewMsg base w y) (hb : base' ≤ base) : NewMsg base' w y := ⟨h.lo.mono hb, h.hi.mono hb, h.va.mono hb, h.st, h.kd⟩
theorem NewMsg.keep {base T B : Nat} {w w' : World} {y : Mt} (h : NewMsg base w y) (hk : Keep T B w w') (hT : 5 ≠ T) : NewMsg base w' y := ⟨h.lo.keep hk hT, h.hi.keep hk hT, h.va.keep hk hT, h.st, h.kd⟩

def zeroM : Mt := ⟨.slice none 0 0, .slice none 0 0, .slice none 0 0, ⟨0, 0, [], [], []⟩⟩
/-- What copied gives. -/
structure CopyPost (w : World) (m : Ms) (r : Ending) (w' : World) : Prop where
  is : ∃ y : Mt, r = .returned y.val ∧ y.m = m ∧ NewMsg w.heap.size w' y ∧ Below w.heap.size w w'

set_option maxHeartbeats 3200000 in
set_option maxRecDepth 100000 in
theorem copied_any {w : World} {x : Mt} (h : x.Ok w.heap.size w) :
    Calls Try.prog 27 #[x.val] w fun r w' => CopyPost w x.m r w' := by
  obtain ⟨v1, v2, v3, m⟩ := x
  obtain ⟨a1, c1, e1⟩ := h.lo.form
  obtain ⟨a2, c2, e2⟩ := h.hi.form
  obtain ⟨a3, c3, e3⟩ := h.va.form
  simp only at e1 e2 e3
  subst e1 e2 e3
  obtain ⟨W, hW⟩ : ∃ W, W = (w.alloc (.cells #[.int .u64 (m.st : Int), .int .i64 m.kd, .slice a1 m.lo.length c1, .slice a2 m.hi.length c2, .slice a3 m.va.length c3] 38)).alloc (.cells #[.int .u64 0, .int .i64 0, .slice none 0 0, .slice none 0 0, .slice none 0 0] 38) := ⟨_, rfl⟩
  have HBW : Hid (Below w.heap.size w W) := by rw [hW]; exact (below_new _ _).alloc (by simp) _
  have HX : Hid (MBox W w.heap.size ⟨.slice a1 m.lo.length c1, .slice a2 m.hi.length c2, .slice a3 m.va.length c3, m⟩) := by
    rw [hW]; exact MBox.here ⟨heap_alloc_last _ _⟩ (below_new _ _)
  have HY : Hid (MBox W (w.heap.size + 1) zeroM) := by
    rw [hW]
    have := heap_alloc_last (w.alloc (.cells #[.int .u64 (m.st : Int), .int .i64 m.kd, .slice a1 m.lo.length c1, .slice a2 m.hi.length c2, .slice a3 m.va.length c3] 38)) (.cells #[.int .u64 0, .int .i64 0, .slice none 0 0, .slice none 0 0, .slice none 0 0] 38)
    have e : (w.alloc (.cells #[.int .u64 (m.st : Int), .int .i64 m.kd, .slice a1 m.lo.length c1, .slice a2 m.hi.length c2, .slice a3 m.va.length c3] 38)).heap.size = w.heap.size + 1 := by simp
    rw [e] at this
    exact ⟨this⟩
  have HK1 : Hid (∀ W', Below W.heap.size W W' → KeyAt W' (.slice a1 m.lo.length c1) m.lo) := fun W' hb => ((h.lo.here HBW.out).here hb).at (Nat.le_refl _)
  have HK2 : Hid (∀ W', Below W.heap.size W W' → KeyAt W' (.slice a2 m.hi.length c2) m.hi) := fun W' hb => ((h.hi.here HBW.out).here hb).at (Nat.le_refl _)
  have HK3 : Hid (∀ W', Below W.heap.size W W' → KeyAt W' (.slice a3 m.va.length c3) m.va) := fun W' hb => ((h.va.here HBW.out).here hb).at (Nat.le_refl _)
  have HST : Hid (m.st < 18446744073709551616 ∧ -9223372036854775808 ≤ m.kd ∧ m.kd ≤ 9223372036854775807) := ⟨h.st, h.kd⟩
  unfold Mt.val
  simp only
  clear h
  obtain ⟨x0, x1, x2, x3, x4⟩ := HX.out.cells
  simp only at x0 x1 x2 x3 x4
  go_enter Try.func27, Try.ntmps27
  go_wp2_with fail
  rw [← hW]
  clear hW
  have HD : Hid (Below W.heap.size W W.drew) := (Below.refl _ _).drew
  go_region_held_law (fun W' => W'.cell? ⟨w.heap.size, 0, none⟩ = some (.int .u64 (m.st : Int)) ∧ W'.cell? ⟨w.heap.size, 1, none⟩ = some (.int .i64 m.kd) ∧ W'.cell? ⟨w.heap.size, 2, none⟩ = some (.slice a1 m.lo.length c1) ∧ W'.cell? ⟨w.heap.size, 3, none⟩ = some (.slice a2 m.hi.length c2) ∧ W'.cell? ⟨w.heap.size, 4, none⟩ = some (.slice a3 m.va.length c3)) (first | go_keep | (refine ⟨?_, ?_, ?_, ?_, ?_⟩ <;> assumption))
      (first
        | (go_at_call_of 30 (Value.slice a1 m.lo.length c1)
           refine (anewG_any (HK1.out _ HD.out)).mono ?_
           rintro e w1 ⟨u1, rfl, hu1, hb1⟩
           have HB1 : Hid (Below W.heap.size W w1) := Below.trans HD.out (hb1.mono (Below.size HD.out))
           obtain ⟨r1, q1, y1⟩ := hu1.at.in.form
           subst y1
           have HU1 : Hid (NewKey w.heap.size w1 (.slice r1 m.lo.length q1) m.lo) := hu1.mono (Nat.le_trans HBW.out.size (Below.size HD.out))
           have HS1 : Hid (Below W.drew.heap.size W.drew w1) := hb1
           obtain ⟨p0, p1, p2, p3, p4⟩ := (HX.out.here HB1.out).cells
           simp only at p0 p1 p2 p3 p4
           clear hu1 hb1)
        | (go_at_call_of 30 (Value.slice a2 m.hi.length c2)
           refine (anewG_any (HK2.out _ HB1.out)).mono ?_
           rintro e w2 ⟨u2, rfl, hu2, hb2⟩
           have HB2 : Hid (Below W.heap.size W w2) := Below.trans HB1.out (hb2.mono (Below.size HB1.out))
           obtain ⟨r2, q2, y2⟩ := hu2.at.in.form
           subst y2
           have HU2 : Hid (NewKey w.heap.size w2 (.slice r2 m.hi.length q2) m.hi) := hu2.mono (Nat.le_trans HBW.out.size (Below.size HB1.out))
           have HS2 : Hid (Below w1.heap.size w1 w2) := hb2
           obtain ⟨p0, p1, p2, p3, p4⟩ := (HX.out.here HB2.out).cells
           simp only at p0 p1 p2 p3 p4
           clear hu2 hb2)
        | (go_at_call_of 30 (Value.slice a3 m.va.length c3)
           refine (anewG_any (HK3.out _ HB2.out)).mono ?_
           rintro e w3 ⟨u3, rfl, hu3, hb3⟩
           have HB3 : Hid (Below W.heap.size W w3) := Below.trans HB2.out (hb3.mono (Below.size HB2.out))
           obtain ⟨r3, q3, y3⟩ := hu3.at.in.form
           subst y3
           have HU3 : Hid (NewKey w.heap.size w3 (.slice r3 m.va.length q3) m.va) := hu3.mono (Nat.le_trans HBW.out.size (Below.size HB2.out))
           have HS3 : Hid (Below w2.heap.size w2 w3) := hb3
           obtain ⟨p0, p1, p2, p3, p4⟩ := (HX.out.here HB3.out).cells
           simp only at p0 p1 p2 p3 p4
           obtain ⟨z0, z1, z2, z3, z4⟩ := (HY.out.here HB3.out).cells
           have o0 := (HY.out.here HB3.out).open 0
           have o1 := (HY.out.here HB3.out).open 1
           have o2 := (HY.out.here HB3.out).open 2
           have o3 := (HY.out.here HB3.out).open 3
           have o4 := (HY.out.here HB3.out).open 4
           clear hu3 hb3))
  go_wp2
  have HYZ : Hid (MBox w3 (w.heap.size + 1) zeroM) := HY.out.here HB3.out
  have hkp := put5_keep (B := w.heap.size) ⟨.slice r1 m.lo.length q1, .slice r2 m.hi.length q2, .slice r3 m.va.length q3, m⟩ HYZ.out (by omega)
  refine bodyPost_ret (ret_msg rfl rfl (put5_box (e := ⟨.slice r1 m.lo.length q1, .slice r2 m.hi.length q2, .slice r3 m.va.length q3, m⟩) _ HYZ.out)) rfl ⟨_, rfl, rfl, ⟨?_, ?_, ?_, HST.out.1, HST.out.2⟩, ?_⟩
  · exact ((HU1.out.here HS2.out).here HS3.out).keep hkp (by decide)
  · exact (HU2.out.here HS3.out).keep hkp (by decide)
  · exact HU3.out.keep hkp (by decide)
  · exact (HBW.out.trans (HB3.out.mono HBW.out.size)).trans hkp.low
end Go.Proofs.Ytkjjgbaoicjbaab
