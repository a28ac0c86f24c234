import Derived.Test.YtpmcpomomagkhaaDecN
/- bytes.Clone, copied, anew. -/
namespace Go.Proofs.Ytpmcpomomagkhaa
open Go.RowKit

theorem empty_new (w : World) : NewKey w.heap.size (w.alloc (.cells #[] 5)) (.slice (some ⟨w.heap.size, 0, none⟩) 0 0) [] := ⟨World.ownsRow_lit w #[] 0 (Nat.le_refl _) (by decide) rfl, by decide⟩

theorem is_nil (n c : Nat) (w : World) : Sem.run Try.prog (binOp BinOp.eql 32 (.slice none n c) (.slice none 0 0)) w = .ok (.bool true) w := by kernel_rfl
theorem not_nil (a : Addr) (n c : Nat) (w : World) : Sem.run Try.prog (binOp BinOp.eql 32 (.slice (some a) n c) (.slice none 0 0)) w = .ok (.bool false) w := by kernel_rfl

set_option maxHeartbeats 800000 in
set_option maxRecDepth 100000 in
theorem clone_any {w : World} {v : Value} {k : Key} (h : KeyAt w v k) :
    Calls Try.prog 50 #[v] w fun e w' => ∃ v', e = .returned v' ∧ (NewKey w.heap.size w' v' k ∧ Below w.heap.size w w') := by
  obtain ⟨a, c, rfl⟩ := h.in.form
  have hsh := h.short
  have hn1 := is_nil
  have hn2 := not_nil
  cases a with
  | none =>
    have h0 : k = [] := by
      obtain ⟨⟨_, _, e, hb, _⟩, _⟩ := h
      cases e
      cases k with
      | nil => rfl
      | cons b r => obtain ⟨_, _, e, _⟩ := hb 0 b rfl; cases e
    subst h0
    go_enter Try.func50, Try.ntmps50
    go_wp2
    go_ret
    exact ⟨_, rfl, NewKey.nil _ _, Below.refl _ _⟩
  | some ad =>
    have HK : Hid (KeyAt (w.alloc (.cells #[] 5)) (.slice (some ad) k.length c) k) := h.here (below_new _ _)
    clear h
    go_enter Try.func50, Try.ntmps50
    go_wp2_with (at_builtin; refine wpList_append_key rfl _ _ rfl w.heap.size _ _ [] k rfl (empty_new w) rfl HK.out (by simpa using hsh) (by simp) ?_
                 intro v1 w1 hv1 hk1
                 have HV1 : Hid (NewKey w.heap.size w1 v1 k) := hv1
                 have HB1 : Hid (Below w.heap.size w w1) := (below_new _ _).trans hk1.low
                 clear hv1 hk1)
    go_ret
    exact ⟨_, rfl, HV1.out, HB1.out⟩

theorem copy_end {w : World} {b c : Nat} {x : Mt} (e : Mt) (hm : e.m = x.m) (h : MBox w b x) (hc : MBox w c zeroM) (hbc : c ≠ b) {B : Nat} (hB : B ≤ b) :
    MBox (((w.setCell ⟨b, 2, none⟩ e.v1).setCell ⟨b, 3, none⟩ e.v2).setCell ⟨b, 4, none⟩ e.v3) b e ∧ MBox (((w.setCell ⟨b, 2, none⟩ e.v1).setCell ⟨b, 3, none⟩ e.v2).setCell ⟨b, 4, none⟩ e.v3) c zeroM ∧ Keep 48 B w (((w.setCell ⟨b, 2, none⟩ e.v1).setCell ⟨b, 3, none⟩ e.v2).setCell ⟨b, 4, none⟩ e.v3) := by
  refine ⟨⟨?_⟩, ⟨?_⟩, (keep_set h.row hB _).trans ((keep_set (heap_set_same _ h.row) hB _).trans (keep_set (heap_set_same _ (heap_set_same _ h.row)) hB _))⟩
  · rw [heap_set_same _ (heap_set_same _ (heap_set_same _ h.row)), hm]; rfl
  · rw [heap_set_other _ hbc, heap_set_other _ hbc, heap_set_other _ hbc]; exact hc.row

set_option maxHeartbeats 6400000 in
set_option maxRecDepth 100000 in
theorem copiedN_any {w : World} {x : Mt} (h : x.Ok w.heap.size w) :
    Calls Try.prog 28 #[x.val] w fun r w' => CopyPost w x.m r w' := by
  obtain ⟨v1, v2, v3, m⟩ := x
  obtain ⟨a1, c1, e1⟩ := h.lo.form
  obtain ⟨a2, c2, e2⟩ := h.hi.form
  obtain ⟨a3, c3, e3⟩ := h.va.form
  simp only at e1 e2 e3
  subst e1 e2 e3
  obtain ⟨W, hW⟩ : ∃ W, W = (w.alloc (.cells #[.int .u64 (m.st : Int), .int .i64 m.kd, .slice a1 m.lo.length c1, .slice a2 m.hi.length c2, .slice a3 m.va.length c3] 48)).alloc (.cells #[.int .u64 0, .int .i64 0, .slice none 0 0, .slice none 0 0, .slice none 0 0] 48) := ⟨_, rfl⟩
  have HBW : Hid (Below w.heap.size w W) := by rw [hW]; exact (below_new _ _).alloc (by simp) _
  have HX : Hid (MBox W w.heap.size ⟨.slice a1 m.lo.length c1, .slice a2 m.hi.length c2, .slice a3 m.va.length c3, m⟩) := by
    rw [hW]; exact MBox.here ⟨heap_alloc_last _ _⟩ (below_new _ _)
  have HY : Hid (MBox W (w.heap.size + 1) zeroM) := by
    rw [hW]
    have := heap_alloc_last (w.alloc (.cells #[.int .u64 (m.st : Int), .int .i64 m.kd, .slice a1 m.lo.length c1, .slice a2 m.hi.length c2, .slice a3 m.va.length c3] 48)) (.cells #[.int .u64 0, .int .i64 0, .slice none 0 0, .slice none 0 0, .slice none 0 0] 48)
    have e : (w.alloc (.cells #[.int .u64 (m.st : Int), .int .i64 m.kd, .slice a1 m.lo.length c1, .slice a2 m.hi.length c2, .slice a3 m.va.length c3] 48)).heap.size = w.heap.size + 1 := by simp
    rw [e] at this
    exact ⟨this⟩
  have HK1 : Hid (∀ W', Below W.heap.size W W' → Calls Try.prog 50 #[.slice a1 m.lo.length c1] W' fun e w' => ∃ v', e = .returned v' ∧ (NewKey W'.heap.size w' v' m.lo ∧ Below W'.heap.size W' w')) := fun W' hb => clone_any (((h.lo.here HBW.out).here hb).at (Nat.le_refl _))
  have HK2 : Hid (∀ W', Below W.heap.size W W' → Calls Try.prog 50 #[.slice a2 m.hi.length c2] W' fun e w' => ∃ v', e = .returned v' ∧ (NewKey W'.heap.size w' v' m.hi ∧ Below W'.heap.size W' w')) := fun W' hb => clone_any (((h.hi.here HBW.out).here hb).at (Nat.le_refl _))
  have HK3 : Hid (∀ W', Below W.heap.size W W' → Calls Try.prog 50 #[.slice a3 m.va.length c3] W' fun e w' => ∃ v', e = .returned v' ∧ (NewKey W'.heap.size w' v' m.va ∧ Below W'.heap.size W' w')) := fun W' hb => clone_any (((h.va.here HBW.out).here hb).at (Nat.le_refl _))
  have HST : Hid (m.st < 18446744073709551616 ∧ -9223372036854775808 ≤ m.kd ∧ m.kd ≤ 9223372036854775807) := ⟨h.st, h.kd⟩
  unfold Mt.val
  simp only
  clear h
  obtain ⟨x0, x1, x2, x3, x4⟩ := HX.out.cells
  simp only at x0 x1 x2 x3 x4
  have HD : Hid (Below W.heap.size W W.drew) := (Below.refl _ _).drew
  go_enter Try.func28, Try.ntmps28
  go_wp2_with fail
  rw [← hW]
  clear hW
  go_region_law
    (first
      | (refine step_callN (by rfl) 50 (Go.Proofs.enters_of Try.func50 (by kernel_rfl) rfl) _ _ (by rfl) (.slice a1 m.lo.length c1) _ (by rfl) (by exact HK1.out _ HD.out) ?_
         intro u1 w1 hr1
         have HB1 : Hid (Below W.heap.size W w1) := Below.trans HD.out (hr1.2.mono (Below.size HD.out))
         obtain ⟨r1, q1, y1⟩ := (NewKey.in hr1.1).form
         subst y1
         have HU1 : Hid (NewKey w.heap.size w1 (.slice r1 m.lo.length q1) m.lo) := hr1.1.mono (Nat.le_trans HBW.out.size (Below.size HD.out))
         obtain ⟨p0, p1, p2, p3, p4⟩ := (HX.out.here HB1.out).cells
         simp only at p0 p1 p2 p3 p4
         clear hr1)
      | (refine step_callN (by rfl) 50 (Go.Proofs.enters_of Try.func50 (by kernel_rfl) rfl) _ _ (by rfl) (.slice a2 m.hi.length c2) _ (by rfl) (by exact HK2.out _ HB1.out) ?_
         intro u2 w2 hr2
         have HB2 : Hid (Below W.heap.size W w2) := Below.trans HB1.out (hr2.2.mono (Below.size HB1.out))
         obtain ⟨r2, q2, y2⟩ := (NewKey.in hr2.1).form
         subst y2
         have HU2 : Hid (NewKey w.heap.size w2 (.slice r2 m.hi.length q2) m.hi) := hr2.1.mono (Nat.le_trans HBW.out.size (Below.size HB1.out))
         have HU12 : Hid (NewKey w.heap.size w2 (.slice r1 m.lo.length q1) m.lo) := HU1.out.here hr2.2
         obtain ⟨s0, s1, s2, s3, s4⟩ := (HX.out.here HB2.out).cells
         simp only at s0 s1 s2 s3 s4
         clear hr2)
      | (refine step_callN (by rfl) 50 (Go.Proofs.enters_of Try.func50 (by kernel_rfl) rfl) _ _ (by rfl) (.slice a3 m.va.length c3) _ (by rfl) (by exact HK3.out _ HB2.out) ?_
         intro u3 w3 hr3
         have HB3 : Hid (Below W.heap.size W w3) := Below.trans HB2.out (hr3.2.mono (Below.size HB2.out))
         obtain ⟨r3, q3, y3⟩ := (NewKey.in hr3.1).form
         subst y3
         have HU3 : Hid (NewKey w.heap.size w3 (.slice r3 m.va.length q3) m.va) := hr3.1.mono (Nat.le_trans HBW.out.size (Below.size HB2.out))
         have HU13 : Hid (NewKey w.heap.size w3 (.slice r1 m.lo.length q1) m.lo) := HU12.out.here hr3.2
         have HU23 : Hid (NewKey w.heap.size w3 (.slice r2 m.hi.length q2) m.hi) := HU2.out.here hr3.2
         obtain ⟨t0, t1, t2, t3, t4⟩ := (HX.out.here HB3.out).cells
         simp only at t0 t1 t2 t3 t4
         have o2 := (HX.out.here HB3.out).open 2
         have o3 := (HX.out.here HB3.out).open 3
         have o4 := (HX.out.here HB3.out).open 4
         clear hr3))
  all_goals
    have HE := copy_end (x := ⟨.slice a1 m.lo.length c1, .slice a2 m.hi.length c2, .slice a3 m.va.length c3, m⟩) ⟨.slice r1 m.lo.length q1, .slice r2 m.hi.length q2, .slice r3 m.va.length q3, m⟩ rfl (HX.out.here HB3.out) (HY.out.here HB3.out) (by omega) (B := w.heap.size) (Nat.le_refl _)
    obtain ⟨W5, hW5⟩ : ∃ W5, W5 = ((w3.setCell ⟨w.heap.size, 2, none⟩ (.slice r1 m.lo.length q1)).setCell ⟨w.heap.size, 3, none⟩ (.slice r2 m.hi.length q2)).setCell ⟨w.heap.size, 4, none⟩ (.slice r3 m.va.length q3) := ⟨_, rfl⟩
    rw [← hW5] at HE ⊢
    have HX5 : Hid (MBox W5 w.heap.size ⟨.slice r1 m.lo.length q1, .slice r2 m.hi.length q2, .slice r3 m.va.length q3, m⟩) := HE.1
    have HY5 : Hid (MBox W5 (w.heap.size + 1) zeroM) := HE.2.1
    have hk5 : Keep 48 w.heap.size w3 W5 := HE.2.2
    have hkp := put5_keep (B := w.heap.size) ⟨.slice r1 m.lo.length q1, .slice r2 m.hi.length q2, .slice r3 m.va.length q3, m⟩ HY5.out (by omega)
    have HEND : Hid (CopyPost w m (.returned (Mt.val ⟨.slice r1 m.lo.length q1, .slice r2 m.hi.length q2, .slice r3 m.va.length q3, m⟩)) (put5 W5 (w.heap.size + 1) ⟨.slice r1 m.lo.length q1, .slice r2 m.hi.length q2, .slice r3 m.va.length q3, m⟩)) := by
      have hk6 := hk5.trans hkp
      exact ⟨_, rfl, rfl, ⟨HU13.out.keep hk6 (by decide), HU23.out.keep hk6 (by decide), HU3.out.keep hk6 (by decide), HST.out.1, HST.out.2⟩, (HBW.out.trans (HB3.out.mono HBW.out.size)).trans hk6.low⟩
    obtain ⟨k0, k1, k2, k3, k4⟩ := HX5.out.cells
    simp only at k0 k1 k2 k3 k4
    obtain ⟨j0, j1, j2, j3, j4⟩ := HY5.out.cells
    have i0 := HY5.out.open 0
    have i1 := HY5.out.open 1
    have i2 := HY5.out.open 2
    have i3 := HY5.out.open 3
    have i4 := HY5.out.open 4
    clear hW5 HE hk5 hkp
    go_wp2
    exact bodyPost_ret (ret_msg rfl rfl (put5_box (e := ⟨.slice r1 m.lo.length q1, .slice r2 m.hi.length q2, .slice r3 m.va.length q3, m⟩) _ HY5.out)) rfl HEND.out
end Go.Proofs.Ytpmcpomomagkhaa

/- anew: children and keys of new memory. -/
namespace Go.Proofs.Ytpmcpomomagkhaa
open Go.RowKit

/-- A row of keys of new memory. -/
structure RowNew (base : Nat) (w : World) (v : Value) (F : List Br.Kc) : Prop where
  own : w.ownsRow base 32 1 v F.length (F.map Br.Kc.v)
  keys : ∀ e ∈ F, NewKey base w e.v e.k
theorem RowNew.nil (base : Nat) (w : World) : RowNew base w (.slice none 0 0) [] := ⟨World.ownsRow_nil _ _ _ _, fun e he => by simp at he⟩
theorem RowNew.here {base : Nat} {w w' : World} {v : Value} {F : List Br.Kc} (h : RowNew base w v F) (hb : Below w.heap.size w w') : RowNew base w' v F := ⟨own_same h.own fun b _ hl => hb.block b hl, fun e he => (h.keys e he).here hb⟩
theorem RowNew.keep {base T B : Nat} {w w' : World} {v : Value} {F : List Br.Kc} (h : RowNew base w v F) (hk : Keep T B w w') (hT : 5 ≠ T) (hE : 32 ≠ T) : RowNew base w' v F := ⟨own_keep h.own hk hE, fun e he => (h.keys e he).keep hk hT⟩
theorem RowNew.mono {base base' : Nat} {w : World} {v : Value} {F : List Br.Kc} (h : RowNew base w v F) (hb : base' ≤ base) : RowNew base' w v F := ⟨own_mono h.own hb, fun e he => (h.keys e he).mono hb⟩
theorem kbox_keep {T B : Nat} {w w' : World} {b : Nat} {x y : Value} (h : Br.KBox w b x y) (hk : Keep T B w w') (hT : 28 ≠ T) : Br.KBox w' b x y := ⟨hk.typ _ _ _ _ hT h.row⟩
/-- How far the keys have been copied. -/
structure CopiedTo (w wx : World) (B3 : Nat) (vp vk : Value) (ps : List Int) (F : List Br.Kc) : Prop where
  box0 : Br.KBox wx (w.heap.size + 1) (.slice none 0 0) (.slice none 0 0)
  box1 : Br.KBox wx B3 vp vk
  far : w.heap.size + 1 < B3
  ints : Br.NewInts w.heap.size wx vp ps
  row : RowNew w.heap.size wx vk F
  low : Below w.heap.size w wx
theorem CopiedTo.step {w wx w1 w2 : World} {B3 : Nat} {vp vk vk' : Value} {ps : List Int} {F : List Br.Kc} {e : Br.Kc} (h : CopiedTo w wx B3 vp vk ps F) (h1 : Below wx.heap.size wx w1) (hg : w1.grownBy w2 vk.ownBlock) (ho : w2.ownsRow w.heap.size 32 1 vk' (F.length + 1) (F.map Br.Kc.v ++ [e.v])) (he : NewKey w.heap.size w1 e.v e.k) :
    Br.KBox w2 B3 vp vk ∧ CopiedTo w (w2.setCell ⟨B3, 1, none⟩ vk') B3 vp vk' ps (F ++ [e]) := by
  have hs := h.low.size
  have hK0 : Keep 32 w.heap.size w1 w2 := keep_grown (h.row.here h1).own hg (Nat.le_trans hs h1.size)
  have hK : Keep 32 w.heap.size wx w2 := (Keep.of h1 hs).trans hK0
  have b1 := kbox_keep h.box1 hK (by decide)
  have b0 := kbox_keep h.box0 hK (by decide)
  have hK2 : Keep 28 w.heap.size w2 (w2.setCell ⟨B3, 1, none⟩ vk') := keep_set b1.row (by have := h.far; omega) _
  refine ⟨b1, b0.other _ (by have := h.far; omega), b1.set1 _, h.far, new_ints_keep (new_ints_keep h.ints hK (by decide)) hK2 (by decide), ⟨?_, fun x hx => ?_⟩, (h.low.trans hK.low).trans hK2.low⟩
  · have e1 : (F ++ [e]).length = F.length + 1 := by simp
    rw [e1, List.map_append]
    exact own_keep ho hK2 (by decide)
  · rcases List.mem_append.1 hx with h' | h'
    · exact ((h.row.keys x h').keep hK (by decide)).keep hK2 (by decide)
    · simp at h'; rw [h']; exact (he.keep hK0 (by decide)).keep hK2 (by decide)
theorem infoKd : (Try.prog.info? 28).map (·.size) = some 2 := by kernel_rfl
theorem ret_kids {fn : Func} {p : Tmp} (h : fn.results = #[.cell p 28]) {tmps : Array Value} {w : World} {b : Nat} {x y : Value} (hp : tmps.getD p undef = .pointer (some ⟨b, 0, none⟩)) (hB : Br.KBox w b x y) :
    (results fn tmps).run Try.prog w = .ok (.agg #[x, y]) w :=
  results_cell_row h tmps w b 28 _ (0, 0) _ hp hB.row Try.underlying28 rfl infoKd
/-- What anew gives. -/
structure AnewPost (w : World) (ps : List Int) (ks : List Key) (r : Ending) (w' : World) : Prop where
  is : ∃ vp vk F, r = .returned (.agg #[vp, vk]) ∧ Br.NewInts w.heap.size w' vp ps ∧ RowNew w.heap.size w' vk F ∧ Br.keysOf F = ks ∧ Below w.heap.size w w'
theorem keysOf_take {K : List Br.Kc} {i : Nat} {e : Br.Kc} (h : K[i]? = some e) : Br.keysOf (K.take (i + 1)) = Br.keysOf (K.take i) ++ [e.k] := by
  rw [List.take_add_one, h]; simp [Br.keysOf]

set_option maxHeartbeats 3200000 in
set_option maxRecDepth 100000 in
theorem anewN_any {w : World} {a1 a2 : Option Addr} {c1 c2 : Nat} {ps : List Int} {K : List Br.Kc} (hP : Br.IntsAt w.heap.size w (.slice a1 ps.length c1) ps) (hK : Br.KeysAt w.heap.size w (.slice a2 K.length c2) K) (hsh : K.length * 24 ≤ 140737488355328) :
    Calls Try.prog 27 #[.agg #[.slice a1 ps.length c1, .slice a2 K.length c2]] w fun r w' => AnewPost w ps (Br.keysOf K) r w' := by
  obtain ⟨iB, hiB, hzB0, hzB1, hzB2⟩ := infoB'
  obtain ⟨W, hW⟩ : ∃ W, W = (w.alloc (.cells #[.slice a1 ps.length c1, .slice a2 K.length c2] 28)).alloc (.cells #[.slice none 0 0, .slice none 0 0] 28) := ⟨_, rfl⟩
  have es : (w.alloc (.cells #[.slice a1 ps.length c1, .slice a2 K.length c2] 28)).heap.size = w.heap.size + 1 := by simp
  have HBW : Hid (Below w.heap.size w W) := by rw [hW]; exact (below_new _ _).alloc (by rw [es]; omega) _
  have HX : Hid (Br.KBox W w.heap.size (.slice a1 ps.length c1) (.slice a2 K.length c2)) := by rw [hW]; exact (Br.KBox.new _ _ _).here (below_new _ _)
  have HX0 : Hid (Br.KBox W (w.heap.size + 1) (.slice none 0 0) (.slice none 0 0)) := by rw [hW, ← es]; exact Br.KBox.new _ _ _
  have HK : Hid (Br.KeysAt W.heap.size W (.slice a2 K.length c2) K) := hK.here HBW.out
  have HK0 : Hid (Br.KeysAt w.heap.size w (.slice a2 K.length c2) K) := hK
  have HCL := Br.clone_any (hP.here HBW.out)
  obtain ⟨x0, x1⟩ := HX.out.cells
  clear hP hK
  go_enter Try.func27, Try.ntmps27
  go_wp2_with fail
  rw [← hW]
  clear hW
  refine HCL.mono ?_
  rintro r w1 ⟨v1, rfl, hn1, hb1⟩
  obtain ⟨p1, q1, f1⟩ := own_form' hn1.own
  subst f1
  obtain ⟨W2, hW2⟩ : ∃ W2, W2 = w1.alloc (.cells #[.slice p1 ps.length q1, .slice none 0 0] 28) := ⟨_, rfl⟩
  have HB12 : Hid (Below w1.heap.size w1 W2) := by rw [hW2]; exact below_new _ _
  have HBW2 : Hid (Below W.heap.size W W2) := hb1.trans (HB12.out.mono hb1.size)
  have HC0 : Hid (CopiedTo w W2 w1.heap.size (.slice p1 ps.length q1) (.slice none 0 0) ps []) :=
    ⟨HX0.out.here HBW2.out, by rw [hW2]; exact Br.KBox.new _ _ _, Nat.lt_of_lt_of_le HX0.out.lt hb1.size, (hn1.mono HBW.out.size).here HB12.out, RowNew.nil _ _, HBW.out.trans (HBW2.out.mono HBW.out.size)⟩
  obtain ⟨y0, y1⟩ := (HX.out.here HBW2.out).cells
  obtain ⟨B3, hB3⟩ : ∃ B3, B3 = w1.heap.size := ⟨_, rfl⟩
  rw [← hB3] at HC0
  have hws : W.heap.size ≤ W2.heap.size := HBW2.out.size
  have HW2 : Hid (Below w.heap.size w W2) := HBW.out.trans (HBW2.out.mono HBW.out.size)
  have HK2 : Hid (Br.KeysAt W2.heap.size W2 (.slice a2 K.length c2) K) := HK.out.here HBW2.out
  clear hn1 hb1 HCL x0 x1
  go_upto_region 2 with fail
  rw [← hW2, ← hB3]
  clear hW2 hB3
  go_wp2_with fail
  go_loopw [13] (fun i wx => ∃ (k : Nat) (vk : Value) (F : List Br.Kc), k ≤ K.length ∧ i = .int .i64 k ∧ F.length = k ∧ Br.keysOf F = Br.keysOf (K.take k) ∧ CopiedTo w wx B3 (.slice p1 ps.length q1) vk ps F) (fun i _ => K.length - (intOf i).toNat)
  case atStart => exact ⟨0, _, [], by omega, rfl, rfl, by simp [Br.keysOf], HC0.out⟩
  case round =>
    obtain ⟨k, vk, F, hk, rfl, hFl, hkF, hto⟩ := hrel
    obtain ⟨pk, qk, fk⟩ := own_form' hto.row.own
    rw [hFl] at fk
    subst fk
    have HTO : Hid (CopiedTo w wr B3 (.slice p1 ps.length q1) (.slice pk k qk) ps F) := hto
    have HFL : Hid (F.length = k) := hFl
    have HKF : Hid (Br.keysOf F = Br.keysOf (K.take k)) := hkF
    have hwr := hto.low.size
    clear hto hFl hkF HC0
    by_cases hlt : k < K.length
    · have hz : (k : Int) < (K.length : Int) := by omega
      obtain ⟨e, he⟩ : ∃ e, K[k]? = some e := ⟨_, List.getElem?_eq_getElem hlt⟩
      have hKr := HK0.out.below HTO.out.low
      obtain ⟨g, off, _, e1, hcell⟩ := hKr.cell k e he
      cases e1
      have hok := hKr.ok e (List.mem_of_getElem? he)
      obtain ⟨ae, ce, fe⟩ := (ofBrIn hok).form
      have HOK : Hid (KeyIn w.heap.size wr e.v e.k) := ofBrIn hok
      rw [fe] at hcell HOK
      have HST : Hid (Br.keysOf (K.take (k + 1)) = Br.keysOf (K.take k) ++ [e.k]) := keysOf_take he
      have HD : Hid (Below wr.heap.size wr wr.drew) := (Below.refl _ _).drew
      have HCLK : Hid (Calls Try.prog 50 #[.slice ae e.k.length ce] wr.drew fun r w' => ∃ v', r = .returned v' ∧ (NewKey wr.drew.heap.size w' v' e.k ∧ Below wr.drew.heap.size wr.drew w')) := clone_any ((HOK.out.below (HD.out.mono hwr)).at (Nat.le_trans hwr HD.out.size))
      obtain ⟨x0, x1⟩ := HTO.out.box1.cells
      have HOW : Hid (∀ W', Below wr.heap.size wr W' → W'.ownsRow w.heap.size 32 1 (.slice pk k qk) k (F.map Br.Kc.v)) := fun W' hb => by
        have h1 := HTO.out.row.own
        rw [HFL.out] at h1
        exact own_same h1 fun b _ hl => hb.block b hl
      clear hKr hok he fe
      go_wp2_with fail
      go_region_law
        (first
          | (refine step_callN (by rfl) 50 (Go.Proofs.enters_of Try.func50 (by kernel_rfl) rfl) _ _ (by rfl) _ _ (by rfl) (by exact HCLK.out) ?_
             intro u2 w2 hr2
             have HB2 : Hid (Below wr.heap.size wr w2) := HD.out.trans (hr2.2.mono HD.out.size)
             obtain ⟨r2, q2, f2⟩ := (NewKey.in hr2.1).form
             subst f2
             have HU2 : Hid (NewKey w.heap.size w2 (.slice r2 e.k.length q2) e.k) := hr2.1.mono (Nat.le_trans hwr HD.out.size)
             obtain ⟨y0, y1⟩ := (HTO.out.box1.here HB2.out).cells
             have ya : ∀ o, (w2.alloc o).cell? ⟨B3, 1, none⟩ = some (.slice pk k qk) := fun o => ((HTO.out.box1.here HB2.out).here (below_new _ _)).cells.2
             have HB2a : Hid (∀ o, Below wr.heap.size wr (w2.alloc o)) := fun o => HB2.out.trans ((below_new _ _).mono HB2.out.size)
             have HS2 : Hid (w.heap.size ≤ w2.heap.size) := Nat.le_trans hwr HB2.out.size
             clear hr2)
          | (refine step_append_lies _ (by rfl) _ _ 26 (by rfl) w.heap.size 32 iB (.slice none 0 0) 1 24 Try.underlying26 hiB hzB0 hzB1 hzB2 rfl (by decide) (.slice pk k qk) k (F.map Br.Kc.v) (by rfl) (by exact HOW.out _ (HB2a.out _)) ⟨w2.heap.size, 0, none⟩ 1 1 [.slice r2 e.k.length q2] (by rfl) rfl (by exact Br.one_src w2 32 (.slice r2 e.k.length q2)) (by intro u hu; simp at hu; subst hu; rfl) (by decide) (by unfold maxLen; omega) (by omega) (by have := HS2.out; simp; omega) _ rfl ?_
             intro g7 c7 w7 ho7 hg7 _ _
             have hst := HTO.out.step (e := ⟨.slice r2 e.k.length q2, e.k⟩) (HB2a.out _) hg7 (by rw [HFL.out]; exact ho7) (HU2.out.here (below_new _ _))
             have HS7 : Hid _ := hst.2
             obtain ⟨t0, t1⟩ := hst.1.cells
             have o1 := hst.1.open.2
             clear ho7 hg7 hst))
      all_goals
        go_wp2
        exact ⟨⟨k + 1, _, _, by omega, by go_num, by rw [List.length_append, HFL.out]; rfl, by rw [HST.out, ← HKF.out]; simp [Br.keysOf], HS7.out⟩, by simp [intOf]; omega⟩
    · have hz : ¬ (k : Int) < (K.length : Int) := by omega
      have HKE : Hid (Br.keysOf F = Br.keysOf K) := by
        have := HKF.out
        rw [List.take_of_length_le (by omega)] at this
        exact this
      obtain ⟨x0, x1⟩ := HTO.out.box1.cells
      obtain ⟨t0, t1⟩ := HTO.out.box0.cells
      obtain ⟨o0, o1⟩ := HTO.out.box0.open
      have hk1 : Keep 28 w.heap.size wr (wr.setCell ⟨w.heap.size + 1, 0, none⟩ (.slice p1 ps.length q1)) := keep_set HTO.out.box0.row (by omega) _
      have hk2 : Keep 28 w.heap.size (wr.setCell ⟨w.heap.size + 1, 0, none⟩ (.slice p1 ps.length q1)) ((wr.setCell ⟨w.heap.size + 1, 0, none⟩ (.slice p1 ps.length q1)).setCell ⟨w.heap.size + 1, 1, none⟩ (.slice pk k qk)) := keep_set (HTO.out.box0.set0 _).row (by omega) _
      have HEND : Hid (Br.KBox ((wr.setCell ⟨w.heap.size + 1, 0, none⟩ (.slice p1 ps.length q1)).setCell ⟨w.heap.size + 1, 1, none⟩ (.slice pk k qk)) (w.heap.size + 1) (.slice p1 ps.length q1) (.slice pk k qk) ∧ AnewPost w ps (Br.keysOf K) (.returned (.agg #[.slice p1 ps.length q1, .slice pk k qk])) ((wr.setCell ⟨w.heap.size + 1, 0, none⟩ (.slice p1 ps.length q1)).setCell ⟨w.heap.size + 1, 1, none⟩ (.slice pk k qk))) :=
        ⟨HTO.out.box0.put _ _, ⟨_, _, F, rfl, new_ints_keep HTO.out.ints (hk1.trans hk2) (by decide), HTO.out.row.keep (hk1.trans hk2) (by decide) (by decide), HKE.out, HTO.out.low.trans (hk1.trans hk2).low⟩⟩
      clear hk1 hk2
      go_wp2
      exact bodyPost_ret (ret_kids rfl rfl HEND.out.1) rfl HEND.out.2
end Go.Proofs.Ytpmcpomomagkhaa
