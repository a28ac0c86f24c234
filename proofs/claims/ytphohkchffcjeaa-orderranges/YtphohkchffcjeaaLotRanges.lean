/- The Lot's ranges: what is asked of two ranges and a key. -/
import Derived.Test.YtphohkchffcjeaaLendRange
namespace Go.Proofs.Ytphohkchffcjeaa
open Go.RowKit

/-- A range of no great keys. -/
structure Rg.Short (r : Rg) : Prop where
  lo : r.lo.length ≤ 140737488351232
  hi : r.hi.length ≤ 140737488351232
theorem Rg.Short.form {r : Rg} (h : r.Short) : r.form.Short := by
  unfold Rg.form
  split
  · exact ⟨by simp [Rg.zero], by simp [Rg.zero]⟩
  · split
    · exact ⟨h.lo, by simp⟩
    · exact h
theorem Rg.Short.meet {r o : Rg} (h : r.Short) (k : o.Short) : (r.meet o).Short := by
  refine Rg.Short.form ⟨?_, ?_⟩
  · show (if r.lo < o.lo then o.lo else r.lo).length ≤ _
    split
    · exact k.lo
    · exact h.lo
  · show (if !o.all && (r.all || decide (o.hi < r.hi)) then o.hi else r.hi).length ≤ _
    split
    · exact k.hi
    · exact h.hi
theorem Rg.Short.ahead {r o : Rg} (h : r.Short) (k : o.Short) : (r.ahead o).Short := by
  unfold Rg.ahead
  split
  · exact h.form
  · exact h.meet ⟨by simp, k.lo⟩
theorem Rg.Short.behind {r o : Rg} (h : r.Short) (k : o.Short) : (r.behind o).Short := by
  unfold Rg.behind
  split
  · exact ⟨by simp [Rg.zero], by simp [Rg.zero]⟩
  · exact h.meet ⟨k.hi, by simp⟩

/-- Four ranges that lie in blocks one behind the other. -/
structure Four (w : World) (n : Nat) (x1 x2 x3 y1 y2 y3 p1 p2 p3 q1 q2 q3 : Value) : Prop where
  b0 : Box w n x1 x2 x3
  b1 : Box w (n + 1) y1 y2 y3
  b2 : Box w (n + 2) p1 p2 p3
  b3 : Box w (n + 3) q1 q2 q3
theorem Four.here {w w' : World} {n : Nat} {x1 x2 x3 y1 y2 y3 p1 p2 p3 q1 q2 q3 : Value} (h : Four w n x1 x2 x3 y1 y2 y3 p1 p2 p3 q1 q2 q3) (hb : Below w.heap.size w w') : Four w' n x1 x2 x3 y1 y2 y3 p1 p2 p3 q1 q2 q3 := ⟨h.b0.here hb, h.b1.here hb, h.b2.here hb, h.b3.here hb⟩
theorem Four.still {base : Nat} {w w' : World} {n : Nat} {x1 x2 x3 y1 y2 y3 p1 p2 p3 q1 q2 q3 : Value} (h : Four w n x1 x2 x3 y1 y2 y3 p1 p2 p3 q1 q2 q3) (hb : Still base w w') : Four w' n x1 x2 x3 y1 y2 y3 p1 p2 p3 q1 q2 q3 := ⟨h.b0.still hb, h.b1.still hb, h.b2.still hb, h.b3.still hb⟩
theorem NewRange.goes {base base' : Nat} {w w' : World} {v : Value} {r : Rg} (h : NewRange base' w v r) (hg : Goes base w w') : NewRange base' w' v r := by
  obtain ⟨v1, v2, rfl, h1, h2, h3⟩ := h.is
  exact ⟨v1, v2, rfl, hg.new h1, hg.new h2, h3⟩
theorem NewRange.parts {base : Nat} {w : World} {v1 v2 b : Value} {r : Rg} (h : NewRange base w (.agg #[v1, v2, b]) r) : b = .bool r.all ∧ NewKey base w v1 r.lo ∧ NewKey base w v2 r.hi ∧ ∀ k, v1.ownBlock = some k → v2.ownBlock ≠ some k := by
  obtain ⟨w1, w2, e, h1, h2, h3⟩ := h.is
  cases e
  exact ⟨rfl, h1, h2, h3⟩
theorem box_at (W : World) (n : Nat) (x y z : Value) (h : W.heap.size = n) : Box (W.alloc (.cells #[x, y, z] 36)) n x y z := by subst h; exact Box.new W x y z
/-- range1, of two new ranges. -/
theorem range1_new {w : World} {base b0 b1 b : Nat} {l0 l1 vl vw v1 v2 t1 t2 : Value} {items : List (Value × Key)} {r : Rg} (H : Book w base b l0 l1 vl vw items) (h : NewRange b0 w (.agg #[v1, v2, .bool r.all]) r) (k : NewRange b1 w (.agg #[t1, t2, .bool r.all]) r) (hb0 : base ≤ b0) (hb1 : base ≤ b1)
    (hnew : ∀ z ∈ items, ∀ q, z.1.ownBlock = some q → ¬ (v1.ownBlock = some q ∨ v2.ownBlock = some q)) (hil : items.length ≤ 999990) (hbase : base ≤ w.heap.size) :
    Calls Try.prog 39 #[.pointer (some ⟨b, 0, none⟩), .agg #[v1, v2, .bool r.all], .agg #[t1, t2, .bool r.all]] w fun e w' => e = .returned (.bool true) ∧ Still base w w' ∧ ∃ vl' vw', Book w' base b l0 l1 vl' vw' (items ++ [(v1, r.lo), (v2, r.hi)]) := by
  obtain ⟨_, h1, h2, h3⟩ := h.parts
  obtain ⟨_, k1, k2, _⟩ := k.parts
  exact range1_any H (h1.mono hb0) (h2.mono hb0) h3 (k1.mono hb1) (k2.mono hb1) (fun i v' bs' q hi hq he => hnew _ (List.mem_of_getElem? hi) q he hq) hil hbase

set_option maxHeartbeats 6400000 in
set_option maxRecDepth 100000 in
theorem ranges_any {w : World} {base b : Nat} {l0 l1 vl vw x1 x2 y1 y2 kx p1 p2 q1 q2 kp : Value} {items : List (Value × Key)} {r o : Rg} {k : Key} (H : Book w base b l0 l1 vl vw items) (hx : RangeS base w x1 x2 r) (hy : RangeS base w y1 y2 o) (hk : KeyS base w kx k) (hp : RangeS base w p1 p2 r) (hq : RangeS base w q1 q2 o) (hkp : KeyS base w kp k) (sr : r.Short) (so : o.Short) (hbase : base ≤ w.heap.size) (hil : items.length ≤ 999980) :
    Calls Try.prog 16 #[.pointer (some ⟨b, 0, none⟩), .agg #[x1, x2, .bool r.all], .agg #[y1, y2, .bool o.all], kx, .agg #[p1, p2, .bool r.all], .agg #[q1, q2, .bool o.all], kp] w fun e w' => e = .returned (.bool true) ∧ Still base w w' ∧ ∃ vl' vw' new, Book w' base b l0 l1 vl' vw' (items ++ new) ∧ new.length = 6 ∧ ∀ z ∈ new, z.2.length ≤ 140737488351240 ∧ ∀ g, z.1.ownBlock = some g → w.heap.size ≤ g := by
  have HX : Hid _ := hx
  have HY : Hid _ := hy
  have HP : Hid _ := hp
  have HQ : Hid _ := hq
  have HK : Hid _ := hk
  have HKP : Hid _ := hkp
  have HH : Hid _ := H
  have SR : Hid _ := sr
  have SO : Hid _ := so
  obtain ⟨a1, c1, a2, c2, rfl, rfl⟩ := hx.slices
  obtain ⟨a3, c3, a4, c4, rfl, rfl⟩ := hy.slices
  obtain ⟨a5, c5, a6, c6, rfl, rfl⟩ := hp.slices
  obtain ⟨a7, c7, a8, c8, rfl, rfl⟩ := hq.slices
  obtain ⟨a9, c9, rfl, _⟩ := hk.is.is
  obtain ⟨a10, c10, rfl, _⟩ := hkp.is.is
  obtain ⟨W, hW⟩ : ∃ W, W = (((w.alloc (.cells #[.slice a1 r.lo.length c1, .slice a2 r.hi.length c2, .bool r.all] 36)).alloc (.cells #[.slice a3 o.lo.length c3, .slice a4 o.hi.length c4, .bool o.all] 36)).alloc (.cells #[.slice a5 r.lo.length c5, .slice a6 r.hi.length c6, .bool r.all] 36)).alloc (.cells #[.slice a7 o.lo.length c7, .slice a8 o.hi.length c8, .bool o.all] 36) := ⟨_, rfl⟩
  have hbW : Below w.heap.size w W := by rw [hW]; exact (((below_new w _).alloc (by simp) _).alloc (by simp; omega) _).alloc (by simp; omega) _
  have key : ∀ (W : World) (n : Nat) (x y z : Value), W.heap.size = n → Box (W.alloc (.cells #[x, y, z] 36)) n x y z := fun W n x y z h => by subst h; exact Box.new W x y z
  have hfour : Four W w.heap.size (.slice a1 r.lo.length c1) (.slice a2 r.hi.length c2) (.bool r.all) (.slice a3 o.lo.length c3) (.slice a4 o.hi.length c4) (.bool o.all) (.slice a5 r.lo.length c5) (.slice a6 r.hi.length c6) (.bool r.all) (.slice a7 o.lo.length c7) (.slice a8 o.hi.length c8) (.bool o.all) := by
    rw [hW]
    exact ⟨(((key w _ _ _ _ rfl).alloc _).alloc _).alloc _, ((key _ _ _ _ _ (by simp)).alloc _).alloc _, (key _ _ _ _ _ (by simp)).alloc _, key _ _ _ _ _ (by simp)⟩
  have F0 : Hid _ := hfour
  have G0 : Hid (Still base w W) := Still.of hbW hbase
  have B0 : Hid (Book W base b l0 l1 vl vw items) := H.here hbW
  have hs0 : w.heap.size ≤ W.heap.size := hbW.size
  obtain ⟨e0, e1, e2⟩ := hfour.b0.cells
  obtain ⟨f0, f1, f2⟩ := hfour.b1.cells
  clear H hx hy hp hq hk hkp sr so hbW hfour key
  go_enter Try.func16, Try.ntmps16
  go_upto_region 1 with fail
  rw [← hW]
  clear hW
  go_wp2_with fail
  refine (meet_any (HX.out.goes G0.out.goes).at (HY.out.goes G0.out.goes).at).mono ?_
  rintro e w1 ⟨m, rfl, hm, hb⟩
  obtain ⟨m1, m2, m3, m4, rfl⟩ := hm.slices
  obtain ⟨V1, hV1⟩ : ∃ V1, V1 = w1.alloc (.cells #[.slice m1 (r.meet o).lo.length m2, .slice m3 (r.meet o).hi.length m4, .bool (r.meet o).all] 36) := ⟨_, rfl⟩
  have hbV : Below w1.heap.size w1 V1 := by rw [hV1]; exact below_new _ _
  have hb' : Below W.heap.size W V1 := hb.trans (hbV.mono hb.size)
  have G1 : Hid (Still base w V1) := G0.out.trans (Still.of hb' (by omega))
  have B1 : Hid (Book V1 base b l0 l1 vl vw items) := B0.out.here hb'
  have F1 : Hid _ := F0.out.here hb'
  have N1 : Hid (NewRange W.heap.size V1 (.agg #[.slice m1 (r.meet o).lo.length m2, .slice m3 (r.meet o).hi.length m4, .bool (r.meet o).all]) (r.meet o)) := hm.here hbV
  have X1 : Hid (Box V1 w1.heap.size (.slice m1 (r.meet o).lo.length m2) (.slice m3 (r.meet o).hi.length m4) (.bool (r.meet o).all)) := by rw [hV1]; exact Box.new _ _ _ _
  have D2 : Hid (∀ q, ((Value.slice m1 (r.meet o).lo.length m2).ownBlock = some q ∨ (Value.slice m3 (r.meet o).hi.length m4).ownBlock = some q) → W.heap.size ≤ q ∧ q < V1.heap.size) := fun q h => ⟨(N1.out.below h).2, (N1.out.below h).1⟩
  have hs1 : W.heap.size ≤ V1.heap.size := hb'.size
  have hz1 : w1.heap.size < V1.heap.size := by rw [hV1]; simp
  clear hb hm hbV hb' e0 e1 e2 f0 f1 f2
  obtain ⟨e0, e1, e2⟩ := F1.out.b0.cells
  obtain ⟨f0, f1, f2⟩ := F1.out.b1.cells
  obtain ⟨g0, g1, g2⟩ := F1.out.b2.cells
  obtain ⟨h0, h1, h2⟩ := F1.out.b3.cells
  go_upto_region 2 with fail
  rw [← hV1]
  clear hV1
  go_wp2_with fail
  refine (refMeet_any (HP.out.goes G1.out.goes).at (HQ.out.goes G1.out.goes).at).mono ?_
  rintro e w2 ⟨m, rfl, hm, hb⟩
  obtain ⟨n1, n2, n3, n4, rfl⟩ := hm.slices
  obtain ⟨V2, hV2⟩ : ∃ V2, V2 = w2.alloc (.cells #[.slice n1 (r.meet o).lo.length n2, .slice n3 (r.meet o).hi.length n4, .bool (r.meet o).all] 36) := ⟨_, rfl⟩
  have hbV : Below w2.heap.size w2 V2 := by rw [hV2]; exact below_new _ _
  have hb' : Below V1.heap.size V1 V2 := hb.trans (hbV.mono hb.size)
  have hg : Still base V1 V2 := Still.of hb' (by omega)
  have G2 : Hid (Still base w V2) := G1.out.trans hg
  have B2 : Hid (Book V2 base b l0 l1 vl vw items) := B1.out.here hb'
  have F2 : Hid _ := F1.out.here hb'
  have N12 : Hid (NewRange W.heap.size V2 (.agg #[.slice m1 (r.meet o).lo.length m2, .slice m3 (r.meet o).hi.length m4, .bool (r.meet o).all]) (r.meet o)) := N1.out.goes hg.goes
  have N2 : Hid (NewRange V1.heap.size V2 (.agg #[.slice n1 (r.meet o).lo.length n2, .slice n3 (r.meet o).hi.length n4, .bool (r.meet o).all]) (r.meet o)) := hm.here hbV
  have X12 : Hid _ := X1.out.here hb'
  have X2 : Hid (Box V2 w2.heap.size (.slice n1 (r.meet o).lo.length n2) (.slice n3 (r.meet o).hi.length n4) (.bool (r.meet o).all)) := by rw [hV2]; exact Box.new _ _ _ _
  have hs2 : V1.heap.size ≤ V2.heap.size := hb'.size
  clear hb hm hbV hb' hg e0 e1 e2 f0 f1 f2 g0 g1 g2 h0 h1 h2
  obtain ⟨e0, e1, e2⟩ := F2.out.b0.cells
  obtain ⟨f0, f1, f2⟩ := F2.out.b1.cells
  obtain ⟨g0, g1, g2⟩ := F2.out.b2.cells
  obtain ⟨h0, h1, h2⟩ := F2.out.b3.cells
  go_upto_region 3 with fail
  rw [← hV2]
  clear hV2
  go_wp2_with fail
  refine (minus_any (HX.out.goes G2.out.goes).at (HY.out.goes G2.out.goes).at).mono ?_
  rintro e w3 ⟨m, m', rfl, hm, hm', hap, hb⟩
  obtain ⟨o1, o2, o3, o4, rfl⟩ := hm.slices
  obtain ⟨s1, s2, s3, s4, rfl⟩ := hm'.slices
  obtain ⟨V3, hV3⟩ : ∃ V3, V3 = (w3.alloc (.cells #[.slice o1 (r.ahead o).lo.length o2, .slice o3 (r.ahead o).hi.length o4, .bool (r.ahead o).all] 36)).alloc (.cells #[.slice s1 (r.behind o).lo.length s2, .slice s3 (r.behind o).hi.length s4, .bool (r.behind o).all] 36) := ⟨_, rfl⟩
  have hbV : Below w3.heap.size w3 V3 := by rw [hV3]; exact (below_new _ _).alloc (by simp) _
  have hb' : Below V2.heap.size V2 V3 := hb.trans (hbV.mono hb.size)
  have hg : Still base V2 V3 := Still.of hb' (by omega)
  have G3 : Hid (Still base w V3) := G2.out.trans hg
  have B3 : Hid (Book V3 base b l0 l1 vl vw items) := B2.out.here hb'
  have F3 : Hid _ := F2.out.here hb'
  have N13 : Hid (NewRange W.heap.size V3 (.agg #[.slice m1 (r.meet o).lo.length m2, .slice m3 (r.meet o).hi.length m4, .bool (r.meet o).all]) (r.meet o)) := N12.out.goes hg.goes
  have N23 : Hid (NewRange V1.heap.size V3 (.agg #[.slice n1 (r.meet o).lo.length n2, .slice n3 (r.meet o).hi.length n4, .bool (r.meet o).all]) (r.meet o)) := N2.out.goes hg.goes
  have N3 : Hid (NewRange V2.heap.size V3 (.agg #[.slice o1 (r.ahead o).lo.length o2, .slice o3 (r.ahead o).hi.length o4, .bool (r.ahead o).all]) (r.ahead o)) := hm.here hbV
  have N4 : Hid (NewRange V2.heap.size V3 (.agg #[.slice s1 (r.behind o).lo.length s2, .slice s3 (r.behind o).hi.length s4, .bool (r.behind o).all]) (r.behind o)) := hm'.here hbV
  have HAP : Hid _ := hap
  have X13 : Hid _ := X12.out.here hb'
  have X23 : Hid _ := X2.out.here hb'
  have X3 : Hid (Box V3 w3.heap.size (.slice o1 (r.ahead o).lo.length o2) (.slice o3 (r.ahead o).hi.length o4) (.bool (r.ahead o).all)) := by rw [hV3]; exact (Box.new _ _ _ _).alloc _
  have X4 : Hid (Box V3 (w3.heap.size + 1) (.slice s1 (r.behind o).lo.length s2) (.slice s3 (r.behind o).hi.length s4) (.bool (r.behind o).all)) := by rw [hV3]; exact box_at _ _ _ _ _ (by simp)
  have D3 : Hid (∀ q, ((Value.slice o1 (r.ahead o).lo.length o2).ownBlock = some q ∨ (Value.slice o3 (r.ahead o).hi.length o4).ownBlock = some q) → V2.heap.size ≤ q ∧ q < V3.heap.size) := fun q h => ⟨(N3.out.below h).2, (N3.out.below h).1⟩
  have D4 : Hid (∀ q, ((Value.slice s1 (r.behind o).lo.length s2).ownBlock = some q ∨ (Value.slice s3 (r.behind o).hi.length s4).ownBlock = some q) → V2.heap.size ≤ q ∧ q < V3.heap.size) := fun q h => ⟨(N4.out.below h).2, (N4.out.below h).1⟩
  have hs3 : V2.heap.size ≤ V3.heap.size := hb'.size
  clear hb hm hm' hap hbV hb' hg e0 e1 e2 f0 f1 f2 g0 g1 g2 h0 h1 h2
  obtain ⟨e0, e1, e2⟩ := F3.out.b0.cells
  obtain ⟨f0, f1, f2⟩ := F3.out.b1.cells
  obtain ⟨g0, g1, g2⟩ := F3.out.b2.cells
  obtain ⟨h0, h1, h2⟩ := F3.out.b3.cells
  go_upto_region 4 with fail
  rw [← hV3]
  clear hV3
  go_wp2_with fail
  refine (refMinus_any (HP.out.goes G3.out.goes).at (HQ.out.goes G3.out.goes).at).mono ?_
  rintro e w4 ⟨m, m', rfl, hm, hm', hb⟩
  obtain ⟨i1, i2, i3, i4, rfl⟩ := hm.slices
  obtain ⟨j1, j2, j3, j4, rfl⟩ := hm'.slices
  obtain ⟨V4, hV4⟩ : ∃ V4, V4 = (w4.alloc (.cells #[.slice i1 (r.ahead o).lo.length i2, .slice i3 (r.ahead o).hi.length i4, .bool (r.ahead o).all] 36)).alloc (.cells #[.slice j1 (r.behind o).lo.length j2, .slice j3 (r.behind o).hi.length j4, .bool (r.behind o).all] 36) := ⟨_, rfl⟩
  have hbV : Below w4.heap.size w4 V4 := by rw [hV4]; exact (below_new _ _).alloc (by simp) _
  have hb' : Below V3.heap.size V3 V4 := hb.trans (hbV.mono hb.size)
  have hg : Still base V3 V4 := Still.of hb' (by omega)
  have G4 : Hid (Still base w V4) := G3.out.trans hg
  have B4 : Hid (Book V4 base b l0 l1 vl vw items) := B3.out.here hb'
  have F4 : Hid _ := F3.out.here hb'
  have N14 : Hid (NewRange W.heap.size V4 (.agg #[.slice m1 (r.meet o).lo.length m2, .slice m3 (r.meet o).hi.length m4, .bool (r.meet o).all]) (r.meet o)) := N13.out.goes hg.goes
  have N24 : Hid (NewRange V1.heap.size V4 (.agg #[.slice n1 (r.meet o).lo.length n2, .slice n3 (r.meet o).hi.length n4, .bool (r.meet o).all]) (r.meet o)) := N23.out.goes hg.goes
  have N34 : Hid (NewRange V2.heap.size V4 (.agg #[.slice o1 (r.ahead o).lo.length o2, .slice o3 (r.ahead o).hi.length o4, .bool (r.ahead o).all]) (r.ahead o)) := N3.out.goes hg.goes
  have N44 : Hid (NewRange V2.heap.size V4 (.agg #[.slice s1 (r.behind o).lo.length s2, .slice s3 (r.behind o).hi.length s4, .bool (r.behind o).all]) (r.behind o)) := N4.out.goes hg.goes
  have N5 : Hid (NewRange V3.heap.size V4 (.agg #[.slice i1 (r.ahead o).lo.length i2, .slice i3 (r.ahead o).hi.length i4, .bool (r.ahead o).all]) (r.ahead o)) := hm.here hbV
  have N6 : Hid (NewRange V3.heap.size V4 (.agg #[.slice j1 (r.behind o).lo.length j2, .slice j3 (r.behind o).hi.length j4, .bool (r.behind o).all]) (r.behind o)) := hm'.here hbV
  have X14 : Hid _ := X13.out.here hb'
  have X24 : Hid _ := X23.out.here hb'
  have X34 : Hid _ := X3.out.here hb'
  have X44 : Hid _ := X4.out.here hb'
  have X5 : Hid (Box V4 w4.heap.size (.slice i1 (r.ahead o).lo.length i2) (.slice i3 (r.ahead o).hi.length i4) (.bool (r.ahead o).all)) := by rw [hV4]; exact (Box.new _ _ _ _).alloc _
  have X6 : Hid (Box V4 (w4.heap.size + 1) (.slice j1 (r.behind o).lo.length j2) (.slice j3 (r.behind o).hi.length j4) (.bool (r.behind o).all)) := by rw [hV4]; exact box_at _ _ _ _ _ (by simp)
  have hs4 : V3.heap.size ≤ V4.heap.size := hb'.size
  clear hb hm hm' hbV hb' hg e0 e1 e2 f0 f1 f2 g0 g1 g2 h0 h1 h2 N1 N12 N13 N2 N23 N3 N4 X1 X12 X13 X2 X23 X3 X4
  have D1 : Hid (∀ z ∈ items, ∀ q, z.1.ownBlock = some q → q < w.heap.size) := fun z hz q hq => by
    obtain ⟨i, hi⟩ := List.getElem?_of_mem hz
    exact (own_type (HH.out.item i z.1 z.2 hi) q hq).1
  have HR1 := range1_new B4.out N14.out N24.out (by omega) (by omega) (fun z hz q hq he => by
    have h1 := D1.out z hz q hq
    have h2 := (D2.out q he).1
    omega) (by omega) (by omega)
  obtain ⟨e0, e1, e2⟩ := X14.out.cells
  obtain ⟨f0, f1, f2⟩ := X24.out.cells
  go_upto_region 5 with fail
  rw [← hV4]
  clear hV4
  go_wp2_with fail
  refine HR1.mono ?_
  rintro e V5 ⟨rfl, S5, vl5, vw5, hB5⟩
  have B5 : Hid _ := hB5
  have ST5 : Hid (Still base V4 V5) := S5
  have hs5 : V4.heap.size ≤ V5.heap.size := S5.below.size
  clear hB5 S5 HR1 e0 e1 e2 f0 f1 f2
  have HR2 := range1_new B5.out (N34.out.goes ST5.out.goes) (N5.out.goes ST5.out.goes) (by omega) (by omega) (fun z hz q hq he => by
    have h2 := (D3.out q he).1
    rcases List.mem_append.1 hz with h | h
    · have h1 := D1.out z h q hq
      omega
    · have h3 := D2.out q (by
        simp only [List.mem_cons, List.not_mem_nil, or_false] at h
        rcases h with rfl | rfl
        · exact .inl hq
        · exact .inr hq)
      omega) (by simp; omega) (by omega)
  obtain ⟨e0, e1, e2⟩ := (X34.out.still ST5.out).cells
  obtain ⟨f0, f1, f2⟩ := (X5.out.still ST5.out).cells
  go_wp2_with fail
  refine HR2.mono ?_
  rintro e V6 ⟨rfl, S6, vl6, vw6, hB6⟩
  have B6 : Hid _ := hB6
  have ST6 : Hid (Still base V4 V6) := ST5.out.trans S6
  have hs6 : V5.heap.size ≤ V6.heap.size := S6.below.size
  clear hB6 S6 HR2 e0 e1 e2 f0 f1 f2
  have HR3 := range1_new B6.out (N44.out.goes ST6.out.goes) (N6.out.goes ST6.out.goes) (by omega) (by omega) (fun z hz q hq he => by
    have h2 := (D4.out q he).1
    rcases List.mem_append.1 hz with h | h
    · rcases List.mem_append.1 h with h | h
      · have h1 := D1.out z h q hq
        omega
      · have h3 := D2.out q (by
          simp only [List.mem_cons, List.not_mem_nil, or_false] at h
          rcases h with rfl | rfl
          · exact .inl hq
          · exact .inr hq)
        omega
    · refine HAP.out _ _ _ _ _ _ rfl rfl q ?_ he
      simp only [List.mem_cons, List.not_mem_nil, or_false] at h
      rcases h with rfl | rfl
      · exact .inl hq
      · exact .inr hq) (by simp; omega) (by omega)
  obtain ⟨e0, e1, e2⟩ := (X44.out.still ST6.out).cells
  obtain ⟨f0, f1, f2⟩ := (X6.out.still ST6.out).cells
  go_wp2_with fail
  refine HR3.mono ?_
  rintro e V7 ⟨rfl, S7, vl7, vw7, hB7⟩
  have B7 : Hid _ := hB7
  have ST7 : Hid (Still base V4 V7) := ST6.out.trans S7
  have hs7 : V6.heap.size ≤ V7.heap.size := S7.below.size
  have F7 : Hid _ := F4.out.still ST7.out
  have G7 : Hid (Still base w V7) := G4.out.trans ST7.out
  clear hB7 S7 HR3 e0 e1 e2 f0 f1 f2 X14 X24 X34 X44 X5 X6 N14 N24 N34 N44 N5 N6 B4 B5 B6 ST5 ST6 F0 F1 F2 F3 F4 G0 G1 G2 G3 G4 HAP
  have HRX : Hid (RangeAt V7 (.agg #[.slice a1 r.lo.length c1, .slice a2 r.hi.length c2, .bool r.all]) r) := (HX.out.goes G7.out.goes).at
  have HRY : Hid (RangeAt V7 (.agg #[.slice a3 o.lo.length c3, .slice a4 o.hi.length c4, .bool o.all]) o) := (HY.out.goes G7.out.goes).at
  have HRP : Hid (RangeAt V7 (.agg #[.slice a5 r.lo.length c5, .slice a6 r.hi.length c6, .bool r.all]) r) := (HP.out.goes G7.out.goes).at
  have HRQ : Hid (RangeAt V7 (.agg #[.slice a7 o.lo.length c7, .slice a8 o.hi.length c8, .bool o.all]) o) := (HQ.out.goes G7.out.goes).at
  have HKX : Hid (KeyAt V7 (.slice a9 k.length c9) k) := (HK.out.goes G7.out.goes).is
  have HKQ : Hid (KeyAt V7 (.slice a10 k.length c10) k) := (HKP.out.goes G7.out.goes).is
  have C1 : Hid (∀ Z, Below V7.heap.size V7 Z → Calls Try.prog 40 #[.agg #[.slice a1 r.lo.length c1, .slice a2 r.hi.length c2, .bool r.all]] Z fun e w' => e = .returned (.bool r.empty) ∧ Below V7.heap.size V7 w') := fun Z hZ => (empty_any (HRX.out.here hZ)).mono (by rintro e w' ⟨h1, h2⟩; exact ⟨h1, hZ.trans (h2.mono hZ.size)⟩)
  have C2 : Hid (∀ Z, Below V7.heap.size V7 Z → Calls Try.prog 41 #[.agg #[.slice a5 r.lo.length c5, .slice a6 r.hi.length c6, .bool r.all]] Z fun e w' => e = .returned (.bool r.empty) ∧ Below V7.heap.size V7 w') := fun Z hZ => (refEmpty_any (HRP.out.here hZ)).mono (by rintro e w' ⟨h1, h2⟩; exact ⟨h1, hZ.trans (h2.mono hZ.size)⟩)
  have C3 : Hid (∀ Z, Below V7.heap.size V7 Z → Calls Try.prog 42 #[.agg #[.slice a1 r.lo.length c1, .slice a2 r.hi.length c2, .bool r.all], .slice a9 k.length c9] Z fun e w' => e = .returned (.bool (r.has k)) ∧ Below V7.heap.size V7 w') := fun Z hZ => (has_any (HRX.out.here hZ) (HKX.out.here hZ)).mono (by rintro e w' ⟨h1, h2⟩; exact ⟨h1, hZ.trans (h2.mono hZ.size)⟩)
  have C4 : Hid (∀ Z, Below V7.heap.size V7 Z → Calls Try.prog 43 #[.agg #[.slice a5 r.lo.length c5, .slice a6 r.hi.length c6, .bool r.all], .slice a10 k.length c10] Z fun e w' => e = .returned (.bool (r.has k)) ∧ Below V7.heap.size V7 w') := fun Z hZ => (refHas_any (HRP.out.here hZ) (HKQ.out.here hZ)).mono (by rintro e w' ⟨h1, h2⟩; exact ⟨h1, hZ.trans (h2.mono hZ.size)⟩)
  have C5 : Hid (∀ Z, Below V7.heap.size V7 Z → Calls Try.prog 44 #[.agg #[.slice a1 r.lo.length c1, .slice a2 r.hi.length c2, .bool r.all], .agg #[.slice a3 o.lo.length c3, .slice a4 o.hi.length c4, .bool o.all]] Z fun e w' => e = .returned (.bool (r.inside o)) ∧ Below V7.heap.size V7 w') := fun Z hZ => (inside_any (HRX.out.here hZ) (HRY.out.here hZ)).mono (by rintro e w' ⟨h1, h2⟩; exact ⟨h1, hZ.trans (h2.mono hZ.size)⟩)
  have C6 : Hid (∀ Z, Below V7.heap.size V7 Z → Calls Try.prog 45 #[.agg #[.slice a5 r.lo.length c5, .slice a6 r.hi.length c6, .bool r.all], .agg #[.slice a7 o.lo.length c7, .slice a8 o.hi.length c8, .bool o.all]] Z fun e w' => e = .returned (.bool (r.inside o)) ∧ Below V7.heap.size V7 w') := fun Z hZ => (refInside_any (HRP.out.here hZ) (HRQ.out.here hZ)).mono (by rintro e w' ⟨h1, h2⟩; rw [← Rg.inside_meet] at h1; exact ⟨h1, hZ.trans (h2.mono hZ.size)⟩)
  generalize r.empty = b1 at C1 C2
  generalize r.has k = b2 at C3 C4
  generalize r.inside o = b3 at C5 C6
  have HZ : Hid (Below V7.heap.size V7 V7.drew) := (Below.refl _ V7).drew
  obtain ⟨e0, e1, e2⟩ := F7.out.b0.cells
  obtain ⟨f0, f1, f2⟩ := F7.out.b1.cells
  obtain ⟨g0, g1, g2⟩ := F7.out.b2.cells
  obtain ⟨h0, h1, h2⟩ := F7.out.b3.cells
  go_wp2_with fail
  go_region_held_law (fun W' => W'.cell? ⟨w.heap.size, 0, none⟩ = some (.slice a1 r.lo.length c1) ∧ W'.cell? ⟨w.heap.size, 1, none⟩ = some (.slice a2 r.hi.length c2) ∧ W'.cell? ⟨w.heap.size, 2, none⟩ = some (.bool r.all) ∧ W'.cell? ⟨w.heap.size + 1, 0, none⟩ = some (.slice a3 o.lo.length c3) ∧ W'.cell? ⟨w.heap.size + 1, 1, none⟩ = some (.slice a4 o.hi.length c4) ∧ W'.cell? ⟨w.heap.size + 1, 2, none⟩ = some (.bool o.all) ∧ W'.cell? ⟨w.heap.size + 2, 0, none⟩ = some (.slice a5 r.lo.length c5) ∧ W'.cell? ⟨w.heap.size + 2, 1, none⟩ = some (.slice a6 r.hi.length c6) ∧ W'.cell? ⟨w.heap.size + 2, 2, none⟩ = some (.bool r.all) ∧ W'.cell? ⟨w.heap.size + 3, 0, none⟩ = some (.slice a7 o.lo.length c7) ∧ W'.cell? ⟨w.heap.size + 3, 1, none⟩ = some (.slice a8 o.hi.length c8) ∧ W'.cell? ⟨w.heap.size + 3, 2, none⟩ = some (.bool o.all)) (first | (refine ⟨?_, ?_, ?_, ?_, ?_, ?_, ?_, ?_, ?_, ?_, ?_, ?_⟩ <;> with_reducible assumption) | (go_keep; done))
    (first
      | (go_at_call 40; refine Calls.mono (C1.out _ HZ.out) ?_
         rintro e z0 ⟨rfl, hz⟩
         have HZ : Hid (Below V7.heap.size V7 z0) := hz
         clear hz
         obtain ⟨x00, x01, x02⟩ := (F7.out.here HZ.out).b0.cells
         obtain ⟨y00, y01, y02⟩ := (F7.out.here HZ.out).b1.cells
         obtain ⟨r00, r01, r02⟩ := (F7.out.here HZ.out).b2.cells
         obtain ⟨t00, t01, t02⟩ := (F7.out.here HZ.out).b3.cells)
      | (go_at_call 41; refine Calls.mono (C2.out _ HZ.out) ?_
         rintro e z1 ⟨rfl, hz⟩
         have HZ : Hid (Below V7.heap.size V7 z1) := hz
         clear hz
         obtain ⟨x10, x11, x12⟩ := (F7.out.here HZ.out).b0.cells
         obtain ⟨y10, y11, y12⟩ := (F7.out.here HZ.out).b1.cells
         obtain ⟨r10, r11, r12⟩ := (F7.out.here HZ.out).b2.cells
         obtain ⟨t10, t11, t12⟩ := (F7.out.here HZ.out).b3.cells)
      | (go_at_call 42; refine Calls.mono (C3.out _ HZ.out) ?_
         rintro e z2 ⟨rfl, hz⟩
         have HZ : Hid (Below V7.heap.size V7 z2) := hz
         clear hz
         obtain ⟨x20, x21, x22⟩ := (F7.out.here HZ.out).b0.cells
         obtain ⟨y20, y21, y22⟩ := (F7.out.here HZ.out).b1.cells
         obtain ⟨r20, r21, r22⟩ := (F7.out.here HZ.out).b2.cells
         obtain ⟨t20, t21, t22⟩ := (F7.out.here HZ.out).b3.cells)
      | (go_at_call 43; refine Calls.mono (C4.out _ HZ.out) ?_
         rintro e z3 ⟨rfl, hz⟩
         have HZ : Hid (Below V7.heap.size V7 z3) := hz
         clear hz
         obtain ⟨x30, x31, x32⟩ := (F7.out.here HZ.out).b0.cells
         obtain ⟨y30, y31, y32⟩ := (F7.out.here HZ.out).b1.cells
         obtain ⟨r30, r31, r32⟩ := (F7.out.here HZ.out).b2.cells
         obtain ⟨t30, t31, t32⟩ := (F7.out.here HZ.out).b3.cells)
      | (go_at_call 44; refine Calls.mono (C5.out _ HZ.out) ?_
         rintro e z4 ⟨rfl, hz⟩
         have HZ : Hid (Below V7.heap.size V7 z4) := hz
         clear hz
         obtain ⟨x40, x41, x42⟩ := (F7.out.here HZ.out).b0.cells
         obtain ⟨y40, y41, y42⟩ := (F7.out.here HZ.out).b1.cells
         obtain ⟨r40, r41, r42⟩ := (F7.out.here HZ.out).b2.cells
         obtain ⟨t40, t41, t42⟩ := (F7.out.here HZ.out).b3.cells)
      | (go_at_call 45; refine Calls.mono (C6.out _ HZ.out) ?_
         rintro e z5 ⟨rfl, hz⟩
         have HZ : Hid (Below V7.heap.size V7 z5) := hz
         clear hz
         obtain ⟨x50, x51, x52⟩ := (F7.out.here HZ.out).b0.cells
         obtain ⟨y50, y51, y52⟩ := (F7.out.here HZ.out).b1.cells
         obtain ⟨r50, r51, r52⟩ := (F7.out.here HZ.out).b2.cells
         obtain ⟨t50, t51, t52⟩ := (F7.out.here HZ.out).b3.cells))
  all_goals
    go_wp2
    go_ret
    refine ⟨rfl, G7.out.trans (Still.of HZ.out (by omega)), vl7, vw7, _, by have := B7.out.here HZ.out; rw [List.append_assoc, List.append_assoc] at this; exact this, rfl, fun z hz => ?_⟩
    have q1 := SR.out.meet SO.out
    have q2 := SR.out.ahead SO.out
    have q3 := SR.out.behind SO.out
    simp only [List.cons_append, List.nil_append, List.mem_cons, List.not_mem_nil, or_false] at hz
    rcases hz with rfl | rfl | rfl | rfl | rfl | rfl
    · exact ⟨Nat.le_trans q1.lo (by omega), fun g hg => Nat.le_trans hs0 (D2.out g (.inl hg)).1⟩
    · exact ⟨Nat.le_trans q1.hi (by omega), fun g hg => Nat.le_trans hs0 (D2.out g (.inr hg)).1⟩
    · exact ⟨Nat.le_trans q2.lo (by omega), fun g hg => Nat.le_trans (by omega) (D3.out g (.inl hg)).1⟩
    · exact ⟨Nat.le_trans q2.hi (by omega), fun g hg => Nat.le_trans (by omega) (D3.out g (.inr hg)).1⟩
    · exact ⟨Nat.le_trans q3.lo (by omega), fun g hg => Nat.le_trans (by omega) (D4.out g (.inl hg)).1⟩
    · exact ⟨Nat.le_trans q3.hi (by omega), fun g hg => Nat.le_trans (by omega) (D4.out g (.inr hg)).1⟩
end Go.Proofs.Ytphohkchffcjeaa
