/- keep: one more that came out. -/
import Derived.Test.YtaehchijeinloaaOut4
namespace Go.Proofs.Ytaehchijeinloaa
open Go.RowKit

theorem infoKz : (Try.prog.info? 26).map (fun i => (i.zero, i.size, i.bytes)) = some (some (.agg #[.slice none 0 0, .slice none 0 0]), 2, 48) := by kernel_rfl
theorem infoKz' : ∃ i, Try.prog.info? 26 = some i ∧ i.zero = some (.agg #[.slice none 0 0, .slice none 0 0]) ∧ i.size = 2 ∧ i.bytes = 48 := by
  have h := infoKz
  cases hi : Try.prog.info? 26 with
  | none => rw [hi] at h; simp at h
  | some i => rw [hi] at h; simp at h; exact ⟨i, rfl, h.1, h.2.1, h.2.2⟩
theorem below_drew_new (w : World) (o : Obj) : Below w.heap.size w (w.drew.alloc o) := (Below.refl _ _).drew.alloc (Nat.le_refl _) _
/-- What was kept so far: the lists of what came out and of what it must be. -/
structure OutS (b : Nat) (w : World) (vl vw : Value) (n : Nat) (xs ys : List Value) : Prop where
  box : w.heap[b]? = some (.cells #[vl, vw] 41 (0, 0))
  ol : w.ownsRow (b + 1) 26 2 vl n xs
  ow : w.ownsRow (b + 1) 26 2 vw n ys
  ap : ∀ k, vl.ownBlock = some k → vw.ownBlock ≠ some k
  hB : b + 1 ≤ w.heap.size
theorem OutS.here {b : Nat} {w w' : World} {vl vw : Value} {n : Nat} {xs ys : List Value} (h : OutS b w vl vw n xs ys) (hb : Below w.heap.size w w') : OutS b w' vl vw n xs ys :=
  ⟨(hb.block b h.hB).trans h.box, own_same h.ol fun b _ hl => hb.block b hl, own_same h.ow fun b _ hl => hb.block b hl, h.ap, Nat.le_trans h.hB hb.size⟩
theorem OutS.move {b : Nat} {w w' : World} {vl vw : Value} {n : Nat} {xs ys : List Value} (h : OutS b w vl vw n xs ys) (hs : ∀ k, (k = b ∨ vl.ownBlock = some k ∨ vw.ownBlock = some k) → w'.heap[k]? = w.heap[k]?) (hw : w.heap.size ≤ w'.heap.size) : OutS b w' vl vw n xs ys :=
  ⟨(hs b (.inl rfl)).trans h.box, own_same h.ol fun k hk _ => hs k (.inr (.inl hk)), own_same h.ow fun k hk _ => hs k (.inr (.inr hk)), h.ap, Nat.le_trans h.hB hw⟩
theorem OutS.cells {b : Nat} {w : World} {vl vw : Value} {n : Nat} {xs ys : List Value} (h : OutS b w vl vw n xs ys) : (w.cell? ⟨b, 0, none⟩ = some vl ∧ w.cell? ⟨b, 1, none⟩ = some vw) ∧ w.frozen? ⟨b, 0, none⟩ = false ∧ w.frozen? ⟨b, 1, none⟩ = false :=
  ⟨⟨by rw [row_cell h.box]; rfl, by rw [row_cell h.box]; rfl⟩, row_frozen h.box _, row_frozen h.box _⟩
/-- In the midst of keep: the one list is longer. -/
structure OutM (b : Nat) (w : World) (vl vw : Value) (n m : Nat) (xs ys : List Value) : Prop where
  box : w.heap[b]? = some (.cells #[vl, vw] 41 (0, 0))
  ol : w.ownsRow (b + 1) 26 2 vl n xs
  ow : w.ownsRow (b + 1) 26 2 vw m ys
  ap : ∀ k, vl.ownBlock = some k → vw.ownBlock ≠ some k
  hB : b + 1 ≤ w.heap.size
theorem OutM.here {b : Nat} {w w' : World} {vl vw : Value} {n m : Nat} {xs ys : List Value} (h : OutM b w vl vw n m xs ys) (hb : Below w.heap.size w w') : OutM b w' vl vw n m xs ys :=
  ⟨(hb.block b h.hB).trans h.box, own_same h.ol fun b _ hl => hb.block b hl, own_same h.ow fun b _ hl => hb.block b hl, h.ap, Nat.le_trans h.hB hb.size⟩
theorem OutM.cells {b : Nat} {w : World} {vl vw : Value} {n m : Nat} {xs ys : List Value} (h : OutM b w vl vw n m xs ys) : (w.cell? ⟨b, 0, none⟩ = some vl ∧ w.cell? ⟨b, 1, none⟩ = some vw) ∧ w.frozen? ⟨b, 0, none⟩ = false ∧ w.frozen? ⟨b, 1, none⟩ = false :=
  ⟨⟨by rw [row_cell h.box]; rfl, by rw [row_cell h.box]; rfl⟩, row_frozen h.box _, row_frozen h.box _⟩
theorem OutM.boxG {b : Nat} {w w' : World} {vl vw : Value} {n m : Nat} {xs ys : List Value} (h : OutM b w vl vw n m xs ys) (hg : w.grownBy w' vl.ownBlock) : w'.heap[b]? = some (.cells #[vl, vw] 41 (0, 0)) :=
  (hg.block b h.hB fun e => absurd (own_type h.ol b e.symm).2.1 (by omega)).trans h.box
theorem OutM.boxW {b : Nat} {w w' : World} {vl vw : Value} {n m : Nat} {xs ys : List Value} (h : OutM b w vl vw n m xs ys) (hg : w.grownBy w' vw.ownBlock) : w'.heap[b]? = some (.cells #[vl, vw] 41 (0, 0)) :=
  (hg.block b h.hB fun e => absurd (own_type h.ow b e.symm).2.1 (by omega)).trans h.box
theorem box_set0 {w : World} {b : Nat} {x y : Value} (h : w.heap[b]? = some (.cells #[x, y] 41 (0, 0))) (u : Value) : (w.setCell ⟨b, 0, none⟩ u).heap[b]? = some (.cells #[u, y] 41 (0, 0)) := heap_set_same u h
theorem box_set1 {w : World} {b : Nat} {x y : Value} (h : w.heap[b]? = some (.cells #[x, y] 41 (0, 0))) (u : Value) : (w.setCell ⟨b, 1, none⟩ u).heap[b]? = some (.cells #[x, u] 41 (0, 0)) := heap_set_same u h
theorem OutM.put0 {b : Nat} {w w' : World} {vl vw : Value} {n m : Nat} {xs ys zs : List Value} (h : OutM b w vl vw n m xs ys) (hg : w.grownBy w' vl.ownBlock) {g c : Nat} (ho : w'.ownsRow (b + 1) 26 2 (.slice (some ⟨g, 0, none⟩) (n + 1) c) (n + 1) zs) (hat : vl.ownBlock = some g ∨ g = w.heap.size) :
    OutM b (w'.setCell ⟨b, 0, none⟩ (.slice (some ⟨g, 0, none⟩) (n + 1) c)) (.slice (some ⟨g, 0, none⟩) (n + 1) c) vw (n + 1) m zs ys ∧ Kept (fun k => k = b ∨ vl.ownBlock = some k) w (w'.setCell ⟨b, 0, none⟩ (.slice (some ⟨g, 0, none⟩) (n + 1) c)) := by
  have hk := setCell_kept (w := w') (b := b) (i := 0) (.slice (some ⟨g, 0, none⟩) (n + 1) c)
  refine ⟨⟨box_set0 (h.boxG hg) _, own_same ho fun k hk' _ => hk.block k (own_type ho k hk').1 (fun e => by have := (own_type ho k hk').2.1; omega), ?_, ?_, by have := hg.size; have := h.hB; simp; omega⟩, (Kept.of_grown hg fun k e => .inr e).trans hk fun k _ e => .inl e⟩
  · refine own_same h.ow fun k hk' hl => (hk.block k (Nat.lt_of_lt_of_le hl hg.size) (fun e => by have := (own_type h.ow k hk').2.1; omega)).trans (hg.block k hl fun e => h.ap k e.symm hk')
  · intro k hk' e
    cases hk'
    rcases hat with e1 | e1
    · exact h.ap g e1 e
    · have := (own_type h.ow g e).1
      omega
theorem OutM.put1 {b : Nat} {w w' : World} {vl vw : Value} {n m : Nat} {xs ys zs : List Value} (h : OutM b w vl vw n m xs ys) (hg : w.grownBy w' vw.ownBlock) {g c : Nat} (ho : w'.ownsRow (b + 1) 26 2 (.slice (some ⟨g, 0, none⟩) (m + 1) c) (m + 1) zs) (hat : vw.ownBlock = some g ∨ g = w.heap.size) :
    OutM b (w'.setCell ⟨b, 1, none⟩ (.slice (some ⟨g, 0, none⟩) (m + 1) c)) vl (.slice (some ⟨g, 0, none⟩) (m + 1) c) n (m + 1) xs zs ∧ Kept (fun k => k = b ∨ vw.ownBlock = some k) w (w'.setCell ⟨b, 1, none⟩ (.slice (some ⟨g, 0, none⟩) (m + 1) c)) := by
  have hk := setCell_kept (w := w') (b := b) (i := 1) (.slice (some ⟨g, 0, none⟩) (m + 1) c)
  refine ⟨⟨box_set1 (h.boxW hg) _, ?_, own_same ho fun k hk' _ => hk.block k (own_type ho k hk').1 (fun e => by have := (own_type ho k hk').2.1; omega), ?_, by have := hg.size; have := h.hB; simp; omega⟩, (Kept.of_grown hg fun k e => .inr e).trans hk fun k _ e => .inl e⟩
  · refine own_same h.ol fun k hk' hl => (hk.block k (Nat.lt_of_lt_of_le hl hg.size) (fun e => by have := (own_type h.ol k hk').2.1; omega)).trans (hg.block k hl fun e => h.ap k hk' e.symm)
  · intro k hk' e
    cases e
    rcases hat with e1 | e1
    · exact h.ap g hk' e1
    · have := (own_type h.ol g hk').1
      omega

theorem tag_eqO {w : World} {b : Nat} {c c' : Array Value} {t t' : TypeId} {z z' : Nat × Nat} (h : w.heap[b]? = some (.cells c t z)) (h' : w.heap[b]? = some (.cells c' t' z')) : t = t' := by
  rw [h] at h'
  simp only [Option.some.injEq, Obj.cells.injEq] at h'
  exact h'.2.1
theorem NewInts.kept {base : Nat} {w w' : World} {v : Value} {ps : List Int} {P : Nat → Prop} (h : NewInts base w v ps) (hk : Kept P w w') (hP : ∀ k, P k → ∃ cur T, w.heap[k]? = some (.cells cur T (0, 0)) ∧ 3 ≠ T ∧ 27 ≠ T ∧ 5 ≠ T) : NewInts base w' v ps :=
  ⟨own_same h.own fun k hk' hl => hk.block k hl fun hp => by
    obtain ⟨cur, T, h1, h2, _⟩ := hP k hp
    obtain ⟨_, _, cur', h3⟩ := own_type h.own k hk'
    exact h2 (tag_eqO h3 h1)⟩
theorem NewKeys.kept {base : Nat} {w w' : World} {v : Value} {F : List Kc} {P : Nat → Prop} (h : NewKeys base w v F) (hk : Kept P w w') (hP : ∀ k, P k → ∃ cur T, w.heap[k]? = some (.cells cur T (0, 0)) ∧ 3 ≠ T ∧ 27 ≠ T ∧ 5 ≠ T) : NewKeys base w' v F :=
  ⟨own_same h.own fun k hk' hl => hk.block k hl fun hp => by
    obtain ⟨cur, T, h1, _, h2, _⟩ := hP k hp
    obtain ⟨_, _, cur', h3⟩ := own_type h.own k hk'
    exact h2 (tag_eqO h3 h1), fun e he => ⟨own_same (h.keys e he).1 fun k hk' hl => hk.block k hl fun hp => by
    obtain ⟨cur, T, h1, _, _, h2⟩ := hP k hp
    obtain ⟨_, _, cur', h3⟩ := own_type (h.keys e he).1 k hk'
    exact h2 (tag_eqO h3 h1), (h.keys e he).2⟩, h.apart⟩
theorem OutS.types {b : Nat} {w : World} {vl vw : Value} {n : Nat} {xs ys : List Value} (h : OutS b w vl vw n xs ys) : ∀ k, (k = b ∨ vl.ownBlock = some k ∨ vw.ownBlock = some k) → ∃ cur T, w.heap[k]? = some (.cells cur T (0, 0)) ∧ 3 ≠ T ∧ 27 ≠ T ∧ 5 ≠ T := fun k hk => by
  rcases hk with rfl | e | e
  · exact ⟨_, _, h.box, by decide, by decide, by decide⟩
  · obtain ⟨_, _, cur, h1⟩ := own_type h.ol k e
    exact ⟨_, _, h1, by decide, by decide, by decide⟩
  · obtain ⟨_, _, cur, h1⟩ := own_type h.ow k e
    exact ⟨_, _, h1, by decide, by decide, by decide⟩

set_option maxHeartbeats 3200000 in
set_option maxRecDepth 100000 in
theorem keep_any {b B1 B2 : Nat} {w : World} {vl vw vp vk up uk : Value} {n : Nat} {xs ys : List Value} {ps qs : List Int} {L M : List Kc} (h : OutS b w vl vw n xs ys) (h1 : NewInts B1 w vp ps) (h2 : NewKeys B1 w vk L) (h3 : NewInts B2 w up qs) (h4 : NewKeys B2 w uk M) (he : kd ps L = kd qs M) (hn : n ≤ 1000)
    (hps : ps.length * 8 ≤ 140737488355328) (hpf : ∀ p ∈ ps, -9223372036854775808 ≤ p ∧ p ≤ 9223372036854775807) (hLs : L.length * 24 ≤ 140737488420864) :
    Calls Try.prog 18 #[.pointer (some ⟨b, 0, none⟩), .agg #[vp, vk], .agg #[up, uk]] w fun e w' => e = .returned (.bool true) ∧ ∃ vl' vw', OutS b w' vl' vw' (n + 1) (xs ++ [vp, vk]) (ys ++ [up, uk]) ∧ Kept (fun k => k = b ∨ vl.ownBlock = some k ∨ vw.ownBlock = some k) w w' ∧ ∀ k, vl'.ownBlock = some k ∨ vw'.ownBlock = some k → (vl.ownBlock = some k ∨ vw.ownBlock = some k) ∨ w.heap.size ≤ k := by
  obtain ⟨a1, c1, rfl⟩ := own_form h1.own
  obtain ⟨a2, c2, rfl⟩ := own_form h2.own
  obtain ⟨a3, c3, rfl⟩ := own_form h3.own
  obtain ⟨a4, c4, rfl⟩ := own_form h4.own
  have HSM : Hid (∀ W, Kept (fun k => k = b ∨ vl.ownBlock = some k ∨ vw.ownBlock = some k) w W → Calls Try.prog 27 #[.agg #[.slice a1 ps.length c1, .slice a2 L.length c2], .agg #[.slice a3 qs.length c3, .slice a4 M.length c4]] W fun e w' => e = .returned (.bool true) ∧ Below W.heap.size W w') := fun W hW => by
    have hq : qs = ps := (congrArg Kd.ps he).symm
    have hm : M.length = L.length := by have := congrArg (fun d => d.ks.length) he; simpa [kd, keysOf] using this.symm
    have k1 : KidsAt W.heap.size W (.agg #[.slice a1 ps.length c1, .slice a2 L.length c2]) ps L := ⟨_, _, rfl, (h1.kept hW h.types).ints hps hpf, (h2.kept hW h.types).at hLs⟩
    have k2 : KidsAt W.heap.size W (.agg #[.slice a3 qs.length c3, .slice a4 M.length c4]) qs M := ⟨_, _, rfl, (h3.kept hW h.types).ints (by rw [hq]; exact hps) (by rw [hq]; exact hpf), (h4.kept hW h.types).at (by rw [hm]; exact hLs)⟩
    have := same_any k1 k2
    rw [decide_eq_true he] at this
    exact this
  obtain ⟨ik, hik, hzk0, hzk1, hzk2⟩ := infoKz'
  obtain ⟨W, hW⟩ : ∃ W, W = (w.alloc (.cells #[.slice a1 ps.length c1, .slice a2 L.length c2] 26)).alloc (.cells #[.slice a3 qs.length c3, .slice a4 M.length c4] 26) := ⟨_, rfl⟩
  have HBW : Hid (Below w.heap.size w W) := by rw [hW]; exact (below_new w _).alloc (by simp) _
  have HX : Hid (KBox W w.heap.size (.slice a1 ps.length c1) (.slice a2 L.length c2)) := by
    rw [hW]; exact (KBox.new w _ _).here (below_new _ _)
  have HY : Hid (KBox W (w.heap.size + 1) (.slice a3 qs.length c3) (.slice a4 M.length c4)) := by
    rw [hW]
    have := KBox.new (w.alloc (.cells #[.slice a1 ps.length c1, .slice a2 L.length c2] 26)) (.slice a3 qs.length c3) (.slice a4 M.length c4)
    show KBox _ _ _ _
    simpa using this
  have HO : Hid (OutM b W vl vw n n xs ys) := ⟨(h.here HBW.out).box, (h.here HBW.out).ol, (h.here HBW.out).ow, h.ap, (h.here HBW.out).hB⟩
  have HLT : Hid (b < w.heap.size) := h.hB
  have HOL : Hid (∀ k, vl.ownBlock = some k → k < w.heap.size) := fun k hk => (own_type h.ol k hk).1
  have HOW : Hid (∀ k, vw.ownBlock = some k → k < w.heap.size) := fun k hk => (own_type h.ow k hk).1
  have HTY : Hid (∀ k, vl.ownBlock = some k ∨ vw.ownBlock = some k → b < k) := fun k hk => by
    rcases hk with e | e
    · exact (own_type h.ol k e).2.1
    · exact (own_type h.ow k e).2.1
  clear h h1 h2 h3 h4 he
  go_enter Try.func18, Try.ntmps18
  go_upto_region 1 with fail
  rw [← hW]
  clear hW
  obtain ⟨⟨p0, p1⟩, f0, f1⟩ := HO.out.cells
  obtain ⟨x0, x1⟩ := HX.out.cells
  have xa : (W.alloc (.cells #[.slice a1 ps.length c1, .slice a2 L.length c2] 26)).cell? ⟨b, 0, none⟩ = some vl := (HO.out.here (below_new W _)).cells.1.1
  go_cut [] (fun wx => ∃ g c, OutM b wx (.slice (some ⟨g, 0, none⟩) (n + 1) c) vw (n + 1) n (xs ++ [.slice a1 ps.length c1, .slice a2 L.length c2]) ys ∧ Kept (fun k => k = b ∨ vl.ownBlock = some k) W wx ∧ (vl.ownBlock = some g ∨ W.heap.size ≤ g))
  case first =>
    go_region_law
      (first
        | (refine step_append_lies _ (by rfl) _ _ 39 (by rfl) (b + 1) 26 ik (.agg #[.slice none 0 0, .slice none 0 0]) 2 48 Try.underlying39 hik hzk0 hzk1 hzk2 (by rfl) (by decide) vl n xs (by rfl) (by first | exact (HO.out.here (below_drew_new W _)).ol | exact (HO.out.here (below_new W _)).ol | exact (HO.out.here (below_new W _).drew).ol) ⟨W.heap.size, 0, none⟩ 1 1 [.slice a1 ps.length c1, .slice a2 L.length c2] (by rfl) (by rfl) (fun j u hj => by rw [add_at, Nat.zero_add]; refine (row_cell (by first | exact heap_alloc_last W _ | exact heap_alloc_last W.drew _) j).trans ?_; simpa using hj) (fun u hu => by simp at hu; rcases hu with rfl | rfl <;> rfl) (by decide) (by unfold maxLen; omega) (by omega) (by first | exact (HO.out.here (below_drew_new W _)).hB | exact (HO.out.here (below_new W _)).hB | exact (HO.out.here (below_new W _).drew).hB) _ rfl ?_
           intro g5 c5 w5 ho5 hg5 hat5 _
           have hm5 : ∃ Wx, Below W.heap.size W Wx ∧ Wx.heap.size = W.heap.size + 1 ∧ Wx.grownBy w5 vl.ownBlock ∧ (vl.ownBlock = some g5 ∨ g5 = Wx.heap.size) := by
             first
               | exact ⟨_, below_drew_new W _, by simp, hg5, hat5⟩
               | exact ⟨_, below_new W _, by simp, hg5, hat5⟩
               | exact ⟨_, (below_new W _).drew, by simp, hg5, hat5⟩
           obtain ⟨Wx, hbx, hsx, hgx, hax⟩ := hm5
           have hp5 := (HO.out.here hbx).put0 hgx ho5 hax
           have hb5 := (HO.out.here hbx).boxG hgx
           have HM5 : Hid _ := hp5.1
           have HK5 : Hid (Kept (fun k => k = b ∨ vl.ownBlock = some k) W _) := (Kept.of_below hbx).trans hp5.2 fun k _ h => h
           have HA5 : Hid (vl.ownBlock = some g5 ∨ W.heap.size ≤ g5) := hax.imp id fun e => by omega
           have f5 := row_frozen hb5 0
           have c5' : w5.cell? ⟨b, 0, none⟩ = some vl := by rw [row_cell hb5]; rfl
           clear ho5 hg5 hat5 hbx hsx hgx hax hp5 hb5))
    all_goals
      go_wp2_with fail
      go_meet
      exact ⟨_, _, HM5.out, HK5.out, HA5.out⟩
  case rest =>
    obtain ⟨g1, d1, hm1, hk1, ha1⟩ := hcut
    obtain ⟨W1, rfl⟩ : ∃ W1, W1 = wc := ⟨_, rfl⟩
    have HM1 : Hid (OutM b W1 (.slice (some ⟨g1, 0, none⟩) (n + 1) d1) vw (n + 1) n (xs ++ [.slice a1 ps.length c1, .slice a2 L.length c2]) ys) := hm1
    have HK1 : Hid (Kept (fun k => k = b ∨ vl.ownBlock = some k) W W1) := hk1
    have HA1 : Hid (vl.ownBlock = some g1 ∨ W.heap.size ≤ g1) := ha1
    have HY1 : Hid (KBox W1 (w.heap.size + 1) (.slice a3 qs.length c3) (.slice a4 M.length c4)) := ⟨(hk1.block _ HY.out.lt (fun e => by
      have hlt := HLT.out
      rcases e with e | e
      · omega
      · have := HOL.out _ e
        omega)).trans HY.out.row⟩
    have HX1 : Hid (KBox W1 w.heap.size (.slice a1 ps.length c1) (.slice a2 L.length c2)) := ⟨(hk1.block _ HX.out.lt (fun e => by
      have hlt := HLT.out
      rcases e with e | e
      · omega
      · have := HOL.out _ e
        omega)).trans HX.out.row⟩
    clear hm1 hk1 ha1 p0 p1 f0 f1 x0 x1 xa
    obtain ⟨⟨p0, p1⟩, f0, f1⟩ := HM1.out.cells
    obtain ⟨y0, y1⟩ := HY1.out.cells
    have xa : (W1.alloc (.cells #[.slice a3 qs.length c3, .slice a4 M.length c4] 26)).cell? ⟨b, 1, none⟩ = some vw := (HM1.out.here (below_new W1 _)).cells.1.2
    go_upto_region 2 with fail
    go_cut [] (fun wx => ∃ g c, OutM b wx (.slice (some ⟨g1, 0, none⟩) (n + 1) d1) (.slice (some ⟨g, 0, none⟩) (n + 1) c) (n + 1) (n + 1) (xs ++ [.slice a1 ps.length c1, .slice a2 L.length c2]) (ys ++ [.slice a3 qs.length c3, .slice a4 M.length c4]) ∧ Kept (fun k => k = b ∨ vw.ownBlock = some k) W1 wx ∧ (vw.ownBlock = some g ∨ W1.heap.size ≤ g))
    case first =>
      go_region_law
        (first
          | (refine step_append_lies _ (by rfl) _ _ 39 (by rfl) (b + 1) 26 ik (.agg #[.slice none 0 0, .slice none 0 0]) 2 48 Try.underlying39 hik hzk0 hzk1 hzk2 (by rfl) (by decide) vw n ys (by rfl) (by first | exact (HM1.out.here (below_drew_new W1 _)).ow | exact (HM1.out.here (below_new W1 _)).ow | exact (HM1.out.here (below_new W1 _).drew).ow) ⟨W1.heap.size, 0, none⟩ 1 1 [.slice a3 qs.length c3, .slice a4 M.length c4] (by rfl) (by rfl) (fun j u hj => by rw [add_at, Nat.zero_add]; refine (row_cell (by first | exact heap_alloc_last W1 _ | exact heap_alloc_last W1.drew _) j).trans ?_; simpa using hj) (fun u hu => by simp at hu; rcases hu with rfl | rfl <;> rfl) (by decide) (by unfold maxLen; omega) (by omega) (by first | exact (HM1.out.here (below_drew_new W1 _)).hB | exact (HM1.out.here (below_new W1 _)).hB | exact (HM1.out.here (below_new W1 _).drew).hB) _ rfl ?_
             intro g5 c5 w5 ho5 hg5 hat5 _
             have hm5 : ∃ Wx, Below W1.heap.size W1 Wx ∧ Wx.grownBy w5 vw.ownBlock ∧ (vw.ownBlock = some g5 ∨ g5 = Wx.heap.size) := by
               first
                 | exact ⟨_, below_drew_new W1 _, hg5, hat5⟩
                 | exact ⟨_, below_new W1 _, hg5, hat5⟩
                 | exact ⟨_, (below_new W1 _).drew, hg5, hat5⟩
             obtain ⟨Wx, hbx, hgx, hax⟩ := hm5
             have hp5 := (HM1.out.here hbx).put1 hgx ho5 hax
             have hb5 := (HM1.out.here hbx).boxW hgx
             have HM5 : Hid _ := hp5.1
             have HK5 : Hid (Kept (fun k => k = b ∨ vw.ownBlock = some k) W1 _) := (Kept.of_below hbx).trans hp5.2 fun k _ h => h
             have HA6 : Hid (vw.ownBlock = some g5 ∨ W1.heap.size ≤ g5) := hax.imp id fun e => by have := hbx.size; omega
             have f5 := row_frozen hb5 1
             have c5' : w5.cell? ⟨b, 1, none⟩ = some vw := by rw [row_cell hb5]; rfl
             clear ho5 hg5 hat5 hbx hgx hax hp5 hb5))
      all_goals
        go_wp2_with fail
        go_meet
        exact ⟨_, _, HM5.out, HK5.out, HA6.out⟩
    case rest =>
      obtain ⟨g2, d2, hm2, hk2, ha2⟩ := hcut
      have HA2 : Hid (vw.ownBlock = some g2 ∨ W1.heap.size ≤ g2) := ha2
      clear ha2
      obtain ⟨W2, rfl⟩ : ∃ W2, W2 = wc := ⟨_, rfl⟩
      have HM2 : Hid (OutM b W2 (.slice (some ⟨g1, 0, none⟩) (n + 1) d1) (.slice (some ⟨g2, 0, none⟩) (n + 1) d2) (n + 1) (n + 1) (xs ++ [.slice a1 ps.length c1, .slice a2 L.length c2]) (ys ++ [.slice a3 qs.length c3, .slice a4 M.length c4])) := hm2
      have hwb : ∀ k : Nat, (k = b ∨ vw.ownBlock = some k) → k < w.heap.size := fun k e => by
        have hlt := HLT.out
        rcases e with e | e
        · omega
        · exact HOW.out _ e
      have HY2 : Hid (KBox W2 (w.heap.size + 1) (.slice a3 qs.length c3) (.slice a4 M.length c4)) := ⟨(hk2.block _ HY1.out.lt (fun e => by have := hwb _ e; omega)).trans HY1.out.row⟩
      have HX2 : Hid (KBox W2 w.heap.size (.slice a1 ps.length c1) (.slice a2 L.length c2)) := ⟨(hk2.block _ HX1.out.lt (fun e => by have := hwb _ e; omega)).trans HX1.out.row⟩
      have HK2 : Hid (Kept (fun k => k = b ∨ vl.ownBlock = some k ∨ vw.ownBlock = some k) w W2) :=
        ((Kept.of_below HBW.out).trans HK1.out fun k _ e => e.imp id .inl).trans hk2 fun k _ e => e.imp id .inr
      clear hm2 hk2 p0 p1 f0 f1 y0 y1 xa hwb
      obtain ⟨y0, y1⟩ := HY2.out.cells
      obtain ⟨x0, x1⟩ := HX2.out.cells
      go_wp2_with fail
      refine (HSM.out W2 HK2.out).mono ?_
      rintro e w9 ⟨rfl, hb⟩
      have HO9 : Hid (OutS b w9 (.slice (some ⟨g1, 0, none⟩) (n + 1) d1) (.slice (some ⟨g2, 0, none⟩) (n + 1) d2) (n + 1) (xs ++ [.slice a1 ps.length c1, .slice a2 L.length c2]) (ys ++ [.slice a3 qs.length c3, .slice a4 M.length c4])) := OutS.here ⟨HM2.out.box, HM2.out.ol, HM2.out.ow, HM2.out.ap, HM2.out.hB⟩ hb
      have HK9 : Hid (Kept (fun k => k = b ∨ vl.ownBlock = some k ∨ vw.ownBlock = some k) w w9) := HK2.out.trans (Kept.of_below (S := fun _ => False) hb) fun k _ e => e.elim
      clear hb
      go_wp2
      go_ret
      refine ⟨rfl, _, _, HO9.out, HK9.out, fun k hk => ?_⟩
      have h1 := HBW.out.size
      have h2 := HK1.out.size
      rcases hk with hk | hk <;> cases hk
      · rcases HA1.out with e | e
        · exact .inl (.inl e)
        · exact .inr (Nat.le_trans h1 e)
      · rcases HA2.out with e | e
        · exact .inl (.inr e)
        · exact .inr (Nat.le_trans (Nat.le_trans h1 h2) e)
end Go.Proofs.Ytaehchijeinloaa
