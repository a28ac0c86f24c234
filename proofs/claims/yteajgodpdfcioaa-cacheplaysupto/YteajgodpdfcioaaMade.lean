/- made: New of each kind, beside all else. -/
import Derived.Test.YteajgodpdfcioaaNew
namespace Go.Proofs.Yteajgodpdfcioaa
open Go.RowKit Go.Maps

set_option maxHeartbeats 800000 in
set_option maxRecDepth 100000 in
theorem made_full {B U n : Nat} {w : World} {W : Nat} {cs ls rs : Nat → Nat} {SC SL : Nat → Ca Value} {SR : Nat → Ca Int} {vc vl vr vo vw : Value} (h : Ws B U n w W cs ls rs SC SL SR vc vl vr vo vw) (hn : n = 30) (m : Int) :
    Calls Try.prog 19 #[ptr W, .int .i64 m] w fun r w' => r = .returned (.bool true) ∧ Below w.heap.size w w' := by
  obtain ⟨gc, cc, rfl, c0, _⟩ := h.cells_c (i := 0) (by omega)
  clear h
  subst hn
  go_enter Try.func19, Try.ntmps19
  go_wp2_with fail
  go_ret
  exact ⟨rfl, Below.refl _ _⟩
set_option maxHeartbeats 800000 in
set_option maxRecDepth 100000 in
theorem made_bad {B U n : Nat} {w : World} {W : Nat} {cs ls rs : Nat → Nat} {SC SL : Nat → Ca Value} {SR : Nat → Ca Int} {vc vl vr vo vw : Value} (h : Ws B U n w W cs ls rs SC SL SR vc vl vr vo vw) (hn : n < 30) {m : Int} (hm : m < 1 ∨ 65536 < m) :
    Calls Try.prog 19 #[ptr W, .int .i64 m] w fun r w' => r = .returned (.bool true) ∧ Below w.heap.size w w' := by
  obtain ⟨ac, cc, rfl⟩ := own_slice h.rc
  have c0 : w.cell? ⟨W, 0, none⟩ = some (.slice ac n cc) := by rw [row_cell h.head]; rfl
  have hnz : (n : Int) < 30 := by omega
  have HM : Hid (m < 1 ∨ 65536 < m) := hm
  clear h hn hm
  go_enter Try.func19, Try.ntmps19
  go_wp2_with fail
  refine (new_bad w m HM.out).mono ?_
  rintro r w1 ⟨rfl, rfl⟩
  go_wp2_with fail
  refine (Li.new_bad _ m HM.out).mono ?_
  rintro r w1 ⟨rfl, rfl⟩
  go_wp2_with fail
  refine (refNew_bad _ m HM.out).mono ?_
  rintro r w1 ⟨rfl, rfl⟩
  go_wp2_with fail
  go_ret
  exact ⟨rfl, Below.refl _ _⟩
/-- One thing more at the end of a row of the World. -/
theorem push_end {w w1 : World} {W g1 k1 n j : Nat} {T : TypeId} {cur : Array Value} {v x : Value} {xs : List Value} (hW : w.heap[W]? = some (.cells cur 30 (0, 0))) (ho : w.ownsRow 0 T 1 v n xs) (hT : T ≠ 30) (h1 : w1.ownsRow 0 T 1 (.slice (some ⟨g1, 0, none⟩) (n + 1) k1) (n + 1) (xs ++ [x])) (hg : (w.alloc (.cells #[x] T)).grownBy w1 v.ownBlock) (ha : v.ownBlock = some g1 ∨ g1 = (w.alloc (.cells #[x] T)).heap.size) :
    w1.heap[W]? = some (.cells cur 30 (0, 0)) ∧ (w1.setCell ⟨W, j, none⟩ (.slice (some ⟨g1, 0, none⟩) (n + 1) k1)).heap[W]? = some (.cells (cur.setIfInBounds j (.slice (some ⟨g1, 0, none⟩) (n + 1) k1)) 30 (0, 0)) ∧ (w1.setCell ⟨W, j, none⟩ (.slice (some ⟨g1, 0, none⟩) (n + 1) k1)).ownsRow 0 T 1 (.slice (some ⟨g1, 0, none⟩) (n + 1) k1) (n + 1) (xs ++ [x]) ∧ Kept (fun k => k = W ∨ v.ownBlock = some k) w (w1.setCell ⟨W, j, none⟩ (.slice (some ⟨g1, 0, none⟩) (n + 1) k1)) ∧ (v.ownBlock = some g1 ∨ w.heap.size ≤ g1) := by
  have hWl : W < w.heap.size := (Array.getElem?_eq_some_iff.1 hW).1
  have ao : v.ownBlock ≠ some W := fun e => by
    obtain ⟨_, _, cur', hc⟩ := own_type ho W e
    rw [hW] at hc
    simp at hc
    exact hT hc.2.symm
  have hb1 : w1.heap[W]? = some (.cells cur 30 (0, 0)) := (hg.block W (by simp; omega) (fun e => ao e.symm)).trans (((below_new w _).block W hWl).trans hW)
  have hg1W : g1 ≠ W := fun e => by
    rcases ha with h | h
    · exact ao (e ▸ h)
    · simp at h; omega
  refine ⟨hb1, heap_set_same _ hb1, own_kept h1 (setCell_kept _) (fun j hj e => by cases hj; exact hg1W e), ?_, ha.imp id fun e => by simp at e; omega⟩
  exact ((Kept.of_below (below_new w _)).trans (Kept.of_grown (S := fun k => v.ownBlock = some k) hg (fun _ e => e)) (fun _ _ e => .inr e)).trans (setCell_kept _) (fun _ _ e => .inl e)
/-- The World's head and its rows, each of its own length. -/
structure Rows (w : World) (W : Nat) (vc vl vr vo vw : Value) (nc nl nr : Nat) (xc xl xr : List Value) : Prop where
  head : w.heap[W]? = some (.cells #[vc, vl, vr, vo, vw] 30 (0, 0))
  rc : w.ownsRow 0 38 1 vc nc xc
  rl : w.ownsRow 0 56 1 vl nl xl
  rr : w.ownsRow 0 58 1 vr nr xr
theorem row_besides {w w' : World} {W n m : Nat} {T T' : TypeId} {cur : Array Value} {v v' : Value} {xs ys : List Value} (hW : w.heap[W]? = some (.cells cur 30 (0, 0))) (h : w.ownsRow 0 T 1 v n xs) (h' : w.ownsRow 0 T' 1 v' m ys) (k : Kept (fun k => k = W ∨ v'.ownBlock = some k) w w') (hT : T ≠ 30) (hT' : T ≠ T') : w'.ownsRow 0 T 1 v n xs := own_kept h k (fun j hj e => by
  obtain ⟨_, _, cur, hc⟩ := own_type h j hj
  rcases e with e | e
  · rw [e, hW] at hc
    simp at hc
    exact hT hc.2.symm
  · obtain ⟨_, _, cur', hc'⟩ := own_type h' j e
    rw [hc'] at hc
    simp at hc
    exact hT' hc.2.symm)
section
variable {w w1 : World} {W g k n nc nl nr : Nat} {vc vl vr vo vw x : Value} {xc xl xr : List Value}
theorem Rows.push_c (h : Rows w W vc vl vr vo vw nc nl nr xc xl xr) (h1 : w1.ownsRow 0 38 1 (.slice (some ⟨g, 0, none⟩) (nc + 1) k) (nc + 1) (xc ++ [x])) (hg : (w.alloc (.cells #[x] 38)).grownBy w1 vc.ownBlock) (ha : vc.ownBlock = some g ∨ g = (w.alloc (.cells #[x] 38)).heap.size) :
    w1.heap[W]? = some (.cells #[vc, vl, vr, vo, vw] 30 (0, 0)) ∧ Rows (w1.setCell ⟨W, 0, none⟩ (.slice (some ⟨g, 0, none⟩) (nc + 1) k)) W (.slice (some ⟨g, 0, none⟩) (nc + 1) k) vl vr vo vw (nc + 1) nl nr (xc ++ [x]) xl xr ∧ Kept (fun k => k = W ∨ vc.ownBlock = some k) w (w1.setCell ⟨W, 0, none⟩ (.slice (some ⟨g, 0, none⟩) (nc + 1) k)) ∧ (vc.ownBlock = some g ∨ w.heap.size ≤ g) := by
  obtain ⟨h0, h2, h3, h4, h5⟩ := push_end (j := 0) h.head h.rc (by decide) h1 hg ha
  exact ⟨h0, ⟨(h2.trans (by simp)), h3, row_besides h.head h.rl h.rc h4 (by decide) (by decide), row_besides h.head h.rr h.rc h4 (by decide) (by decide)⟩, h4, h5⟩
theorem Rows.push_l (h : Rows w W vc vl vr vo vw nc nl nr xc xl xr) (h1 : w1.ownsRow 0 56 1 (.slice (some ⟨g, 0, none⟩) (nl + 1) k) (nl + 1) (xl ++ [x])) (hg : (w.alloc (.cells #[x] 56)).grownBy w1 vl.ownBlock) (ha : vl.ownBlock = some g ∨ g = (w.alloc (.cells #[x] 56)).heap.size) :
    w1.heap[W]? = some (.cells #[vc, vl, vr, vo, vw] 30 (0, 0)) ∧ Rows (w1.setCell ⟨W, 1, none⟩ (.slice (some ⟨g, 0, none⟩) (nl + 1) k)) W vc (.slice (some ⟨g, 0, none⟩) (nl + 1) k) vr vo vw nc (nl + 1) nr xc (xl ++ [x]) xr ∧ Kept (fun k => k = W ∨ vl.ownBlock = some k) w (w1.setCell ⟨W, 1, none⟩ (.slice (some ⟨g, 0, none⟩) (nl + 1) k)) ∧ (vl.ownBlock = some g ∨ w.heap.size ≤ g) := by
  obtain ⟨h0, h2, h3, h4, h5⟩ := push_end (j := 1) h.head h.rl (by decide) h1 hg ha
  exact ⟨h0, ⟨(h2.trans (by simp)), row_besides h.head h.rc h.rl h4 (by decide) (by decide), h3, row_besides h.head h.rr h.rl h4 (by decide) (by decide)⟩, h4, h5⟩
theorem Rows.push_r (h : Rows w W vc vl vr vo vw nc nl nr xc xl xr) (h1 : w1.ownsRow 0 58 1 (.slice (some ⟨g, 0, none⟩) (nr + 1) k) (nr + 1) (xr ++ [x])) (hg : (w.alloc (.cells #[x] 58)).grownBy w1 vr.ownBlock) (ha : vr.ownBlock = some g ∨ g = (w.alloc (.cells #[x] 58)).heap.size) :
    w1.heap[W]? = some (.cells #[vc, vl, vr, vo, vw] 30 (0, 0)) ∧ Rows (w1.setCell ⟨W, 2, none⟩ (.slice (some ⟨g, 0, none⟩) (nr + 1) k)) W vc vl (.slice (some ⟨g, 0, none⟩) (nr + 1) k) vo vw nc nl (nr + 1) xc xl (xr ++ [x]) ∧ Kept (fun k => k = W ∨ vr.ownBlock = some k) w (w1.setCell ⟨W, 2, none⟩ (.slice (some ⟨g, 0, none⟩) (nr + 1) k)) ∧ (vr.ownBlock = some g ∨ w.heap.size ≤ g) := by
  obtain ⟨h0, h2, h3, h4, h5⟩ := push_end (j := 2) h.head h.rr (by decide) h1 hg ha
  exact ⟨h0, ⟨(h2.trans (by simp)), row_besides h.head h.rc h.rr h4 (by decide) (by decide), row_besides h.head h.rl h.rr h4 (by decide) (by decide), h3⟩, h4, h5⟩
end
/-- What made leaves where it makes. -/
structure MadePost (B U n : Nat) (w : World) (W : Nat) (cs ls rs : Nat → Nat) (SC SL : Nat → Ca Value) (SR : Nat → Ca Int) (vc vl vr vo vw : Value) (m : Nat) (w' : World) (bc bl br : Nat) (vc' vl' vr' : Value) : Prop where
  ws : Ws B U (n + 1) w' W (at_ cs n bc) (at_ ls n bl) (at_ rs n br) (at_ SC n ⟨m, 0, 0, []⟩) (at_ SL n ⟨m, 0, 0, []⟩) (at_ SR n ⟨m, 0, 0, []⟩) vc' vl' vr' vo vw
  kept : Kept (fun k => k = W ∨ vc.ownBlock = some k ∨ vl.ownBlock = some k ∨ vr.ownBlock = some k) w w'
theorem made_end {B U n : Nat} {w w3 w5 w7 w9 : World} {W bc bl br m gc gl gr kc kl kr : Nat} {cs ls rs : Nat → Nat} {SC SL : Nat → Ca Value} {SR : Nat → Ca Int} {vc vl vr vo vw : Value} (h : Ws B U n w W cs ls rs SC SL SR vc vl vr vo vw) (hn : n < 30) (hb : Below w.heap.size w w3) (hw : Wos B U (n + 1) w3 (at_ cs n bc) (at_ ls n bl) (at_ rs n br) (at_ SC n ⟨m, 0, 0, []⟩) (at_ SL n ⟨m, 0, 0, []⟩) (at_ SR n ⟨m, 0, 0, []⟩))
    (k5 : Kept (fun k => k = W ∨ vc.ownBlock = some k) w3 w5) (k7 : Kept (fun k => k = W ∨ vl.ownBlock = some k) w5 w7) (k9 : Kept (fun k => k = W ∨ vr.ownBlock = some k) w7 w9) (o1 : vc.ownBlock = some gc ∨ w3.heap.size ≤ gc) (o2 : vl.ownBlock = some gl ∨ w5.heap.size ≤ gl) (o3 : vr.ownBlock = some gr ∨ w7.heap.size ≤ gr)
    (r : Rows w9 W (.slice (some ⟨gc, 0, none⟩) (n + 1) kc) (.slice (some ⟨gl, 0, none⟩) (n + 1) kl) (.slice (some ⟨gr, 0, none⟩) (n + 1) kr) vo vw (n + 1) (n + 1) (n + 1) (ptrs n cs ++ [ptr bc]) (ptrs n ls ++ [ptr bl]) (ptrs n rs ++ [ptr br])) :
    MadePost B U n w W cs ls rs SC SL SR vc vl vr vo vw m w9 bc bl br (.slice (some ⟨gc, 0, none⟩) (n + 1) kc) (.slice (some ⟨gl, 0, none⟩) (n + 1) kl) (.slice (some ⟨gr, 0, none⟩) (n + 1) kr) := by
  have k39 : Kept (fun k => k = W ∨ vc.ownBlock = some k ∨ vl.ownBlock = some k ∨ vr.ownBlock = some k) w3 w9 := ((k5.mono fun _ _ e => e.imp id .inl).trans k7 (fun _ _ e => e.imp id fun e => .inr (.inl e))).trans k9 (fun _ _ e => e.imp id fun e => .inr (.inr e))
  have h3 := h.below hb
  have s3 := hb.size
  have s5 := k5.size
  have s7 := k7.size
  have hB := h.hB
  refine ⟨⟨r.head, ?_, ?_, ?_, hw.far k39 (fun j hj _ => ?_), hn, Nat.le_trans hB (Nat.le_trans s3 k39.size), h.lw.1, fun j hj => ?_⟩, (Kept.of_below hb).trans k39 (fun _ _ e => e)⟩
  · rw [ptrs_new]; exact r.rc
  · rw [ptrs_new]; exact r.rl
  · rw [ptrs_new]; exact r.rr
  · rcases hj with rfl | hj | hj | hj
    · exact ⟨_, _, _, h3.head, by decide, by decide, by decide, by decide, by decide, by decide⟩
    · obtain ⟨_, _, cur, hc⟩ := own_type h3.rc j hj
      exact ⟨_, _, _, hc, by decide, by decide, by decide, by decide, by decide, by decide⟩
    · obtain ⟨_, _, cur, hc⟩ := own_type h3.rl j hj
      exact ⟨_, _, _, hc, by decide, by decide, by decide, by decide, by decide, by decide⟩
    · obtain ⟨_, _, cur, hc⟩ := own_type h3.rr j hj
      exact ⟨_, _, _, hc, by decide, by decide, by decide, by decide, by decide, by decide⟩
  · rcases hj with hj | hj | hj | hj | hj
    · cases hj
      rcases o1 with e | e
      · exact h.lw.2 _ (.inl e)
      · show B ≤ gc; omega
    · cases hj
      rcases o2 with e | e
      · exact h.lw.2 _ (.inr (.inl e))
      · show B ≤ gl; omega
    · cases hj
      rcases o3 with e | e
      · exact h.lw.2 _ (.inr (.inr (.inl e)))
      · show B ≤ gr; omega
    · exact h.lw.2 _ (.inr (.inr (.inr (.inl hj))))
    · exact h.lw.2 _ (.inr (.inr (.inr (.inr hj))))
theorem infoPc : ∃ i, Try.prog.info? 38 = some i ∧ i.zero = some (.pointer none) ∧ i.size = 1 ∧ i.bytes = 8 := by
  have h : (Try.prog.info? 38).map (fun i => (i.zero, i.size, i.bytes)) = some (some (.pointer none), 1, 8) := by kernel_rfl
  cases hi : Try.prog.info? 38 with
  | none => rw [hi] at h; simp at h
  | some i => rw [hi] at h; simp at h; exact ⟨i, rfl, h⟩
theorem infoPl : ∃ i, Try.prog.info? 56 = some i ∧ i.zero = some (.pointer none) ∧ i.size = 1 ∧ i.bytes = 8 := by
  have h : (Try.prog.info? 56).map (fun i => (i.zero, i.size, i.bytes)) = some (some (.pointer none), 1, 8) := by kernel_rfl
  cases hi : Try.prog.info? 56 with
  | none => rw [hi] at h; simp at h
  | some i => rw [hi] at h; simp at h; exact ⟨i, rfl, h⟩
theorem infoPr : ∃ i, Try.prog.info? 58 = some i ∧ i.zero = some (.pointer none) ∧ i.size = 1 ∧ i.bytes = 8 := by
  have h : (Try.prog.info? 58).map (fun i => (i.zero, i.size, i.bytes)) = some (some (.pointer none), 1, 8) := by kernel_rfl
  cases hi : Try.prog.info? 58 with
  | none => rw [hi] at h; simp at h
  | some i => rw [hi] at h; simp at h; exact ⟨i, rfl, h⟩
theorem new_cell {w : World} {x : Value} {T : TypeId} : ∀ (j : Nat) (u : Value), [x][j]? = some u → (w.alloc (.cells #[x] T)).cell? ((⟨w.heap.size, 0, none⟩ : Addr).add j) = some u := fun j u hj => by
  rw [add_at, row_cell (heap_alloc_last w _), Nat.zero_add, ← Array.getElem?_toList]
  exact hj
set_option maxHeartbeats 1600000 in
set_option maxRecDepth 100000 in
theorem made_ok {B U n : Nat} {w : World} {W : Nat} {cs ls rs : Nat → Nat} {SC SL : Nat → Ca Value} {SR : Nat → Ca Int} {vc vl vr vo vw : Value} (h : Ws B U n w W cs ls rs SC SL SR vc vl vr vo vw) (hn : n < 30) {m : Nat} (h1 : 1 ≤ m) (h2 : m ≤ 65536) :
    Calls Try.prog 19 #[ptr W, .int .i64 (m : Int)] w fun r w' => r = .returned (.bool true) ∧ ∃ bc bl br vc' vl' vr', MadePost B U n w W cs ls rs SC SL SR vc vl vr vo vw m w' bc bl br vc' vl' vr' := by
  obtain ⟨ac, cc, rfl⟩ := own_slice h.rc
  obtain ⟨al, cl, rfl⟩ := own_slice h.rl
  obtain ⟨ar, cr, rfl⟩ := own_slice h.rr
  have c0 : w.cell? ⟨W, 0, none⟩ = some (.slice ac n cc) := by rw [row_cell h.head]; rfl
  have hnz : (n : Int) < 30 := by omega
  have HM : Hid (1 ≤ m ∧ m ≤ 65536) := ⟨h1, h2⟩
  have HN : Hid (n < 30) := hn
  have HW : Hid (Ws B U n w W cs ls rs SC SL SR (.slice ac n cc) (.slice al n cl) (.slice ar n cr) vo vw) := h
  clear h hn h1 h2
  obtain ⟨ic, hic, zc0, zc1, zc2⟩ := infoPc
  obtain ⟨il, hil, zl0, zl1, zl2⟩ := infoPl
  obtain ⟨ir, hir, zr0, zr1, zr2⟩ := infoPr
  go_enter Try.func19, Try.ntmps19
  go_wp2_with fail
  refine (new_ok w m HM.out.1 HM.out.2).mono ?_
  rintro r w1 ⟨rfl, hc1, hb1, hs1⟩
  have HC1 : Hid (CacheAt 0 (fun k => w.heap.size ≤ k ∧ k < w.heap.size + 3) w1 (w.heap.size + 2) ⟨m, 0, 0, []⟩ ∧ Below w.heap.size w w1 ∧ w1.heap.size = w.heap.size + 3) := ⟨hc1, hb1, hs1⟩
  clear hc1 hb1 hs1 c0
  go_wp2_with fail
  refine (Li.new_ok w1 m HM.out.1 HM.out.2).mono ?_
  rintro r w2 ⟨rfl, hc2, hb2, hs2⟩
  have HC2 : Hid (Li.CacheAt 0 (fun k => w1.heap.size ≤ k ∧ k < w1.heap.size + 3) w2 (w1.heap.size + 2) ⟨m, 0, 0, []⟩ ∧ Below w1.heap.size w1 w2 ∧ w2.heap.size = w1.heap.size + 3) := ⟨hc2, hb2, hs2⟩
  clear hc2 hb2 hs2
  go_wp2_with fail
  refine (refNew_ok w2 m HM.out.1 HM.out.2).mono ?_
  rintro r w3 ⟨rfl, hc3, hb3, hs3⟩
  have hb12 : Below w.heap.size w w2 := HC1.out.2.1.trans (HC2.out.2.1.mono HC1.out.2.1.size)
  have hb03 : Below w.heap.size w w3 := hb12.trans (hb3.mono hb12.size)
  have h3 := HW.out.below hb03
  have hws : Wos B U (n + 1) w3 (at_ cs n (w.heap.size + 2)) (at_ ls n (w1.heap.size + 2)) (at_ rs n w2.heap.size) (at_ SC n ⟨m, 0, 0, []⟩) (at_ SL n ⟨m, 0, 0, []⟩) (at_ SR n ⟨m, 0, 0, []⟩) :=
    HW.out.wos.new hb03 HW.out.hB ((HC1.out.1.beside (Kept.of_below (S := fun _ => False) ((HC2.out.2.1.trans (hb3.mono HC2.out.2.1.size)))) (fun _ _ f => f)).mono (Nat.zero_le _)) ((HC2.out.1.beside (Kept.of_below (S := fun _ => False) hb3) (fun _ _ f => f)).mono (Nat.zero_le _)) (hc3.mono (Nat.zero_le _)) (fun k e => e.1) (fun k e => Nat.le_trans HC1.out.2.1.size e.1) (fun k e => by rw [e]; exact hb12.size) (fun k e e' => by
      have h1 := e.2
      have h2 := e'.1
      have h3 := HC1.out.2.2
      omega)
  have HWS : Hid (Wos B U (n + 1) w3 (at_ cs n (w.heap.size + 2)) (at_ ls n (w1.heap.size + 2)) (at_ rs n w2.heap.size) (at_ SC n ⟨m, 0, 0, []⟩) (at_ SL n ⟨m, 0, 0, []⟩) (at_ SR n ⟨m, 0, 0, []⟩)) := hws
  have HB : Hid (Below w.heap.size w w3) := hb03
  have HR : Hid (Rows w3 W (.slice ac n cc) (.slice al n cl) (.slice ar n cr) vo vw n n n (ptrs n cs) (ptrs n ls) (ptrs n rs)) := ⟨h3.head, h3.rc, h3.rl, h3.rr⟩
  have d0 : w3.cell? ⟨W, 0, none⟩ = some (.slice ac n cc) := by rw [row_cell h3.head]; rfl
  have d1 : w3.cell? ⟨W, 1, none⟩ = some (.slice al n cl) := by rw [row_cell h3.head]; rfl
  have d2 : w3.cell? ⟨W, 2, none⟩ = some (.slice ar n cr) := by rw [row_cell h3.head]; rfl
  generalize hz1 : w.heap.size + 2 = bc at *
  generalize hz2 : w1.heap.size + 2 = bl at *
  generalize hz3 : w2.heap.size = br at *
  clear hc3 hb3 hs3 hb12 hb03 h3 hws HC1 HC2 hz1 hz2 hz3
  have HCV : Hid ((w3.alloc (.cells #[ptr bc] 38)).ownsRow 0 38 1 (.slice ac n cc) n (ptrs n cs)) := own_here HR.out.rc (below_new _ _)
  go_upto_region 10 with (
    at_builtin
    refine wpList_append_lies _ rfl _ _ 25 rfl 0 38 ic _ 1 8 Try.underlying25 hic zc0 zc1 zc2 rfl (by decide) (.slice ac n cc) n (ptrs n cs) rfl HCV.out ⟨w3.heap.size, 0, none⟩ 1 1 [ptr bc] rfl rfl new_cell (fun u hu => by simp at hu; subst hu; rfl) (by decide) (by have := HN.out; unfold maxLen; omega) (by have := HN.out; omega) (Nat.zero_le _) _ rfl ?_
    intro gc kc w4 ho hg hat hlt
    obtain ⟨q0, q1, q2, q3⟩ := HR.out.push_c ho hg hat
    have e0 : w4.cell? ⟨W, 0, none⟩ = some (.slice ac n cc) := by rw [row_cell q0]; rfl
    have e1 : w4.frozen? ⟨W, 0, none⟩ = false := row_frozen q0 _
    have HQc : Hid _ := (⟨q1, q2, q3⟩ : _ ∧ _ ∧ _)
    clear ho hg hat hlt q0 q1 q2 q3)
  generalize w4.setCell ⟨W, 0, none⟩ (.slice (some ⟨gc, 0, none⟩) (n + 1) kc) = w5 at *
  clear d0 d1 d2 e0 e1
  have d1 : w5.cell? ⟨W, 1, none⟩ = some (.slice al n cl) := by rw [row_cell HQc.out.1.head]; rfl
  have HLV : Hid ((w5.alloc (.cells #[ptr bl] 56)).ownsRow 0 56 1 (.slice al n cl) n (ptrs n ls)) := own_here HQc.out.1.rl (below_new _ _)
  go_upto_region 11 with (
    at_builtin
    refine wpList_append_lies _ rfl _ _ 26 rfl 0 56 il _ 1 8 Try.underlying26 hil zl0 zl1 zl2 rfl (by decide) (.slice al n cl) n (ptrs n ls) rfl HLV.out ⟨w5.heap.size, 0, none⟩ 1 1 [ptr bl] rfl rfl new_cell (fun u hu => by simp at hu; subst hu; rfl) (by decide) (by have := HN.out; unfold maxLen; omega) (by have := HN.out; omega) (Nat.zero_le _) _ rfl ?_
    intro gl kl w6 ho hg hat hlt
    obtain ⟨q0, q1, q2, q3⟩ := HQc.out.1.push_l ho hg hat
    have e0 : w6.cell? ⟨W, 1, none⟩ = some (.slice al n cl) := by rw [row_cell q0]; rfl
    have e1 : w6.frozen? ⟨W, 1, none⟩ = false := row_frozen q0 _
    have HQl : Hid _ := (⟨q1, q2, q3⟩ : _ ∧ _ ∧ _)
    clear ho hg hat hlt q0 q1 q2 q3)
  generalize w6.setCell ⟨W, 1, none⟩ (.slice (some ⟨gl, 0, none⟩) (n + 1) kl) = w7 at *
  clear d1 e0 e1
  have d2 : w7.cell? ⟨W, 2, none⟩ = some (.slice ar n cr) := by rw [row_cell HQl.out.1.head]; rfl
  have HRV : Hid ((w7.alloc (.cells #[ptr br] 58)).ownsRow 0 58 1 (.slice ar n cr) n (ptrs n rs)) := own_here HQl.out.1.rr (below_new _ _)
  go_upto_region 12 with (
    at_builtin
    refine wpList_append_lies _ rfl _ _ 27 rfl 0 58 ir _ 1 8 Try.underlying27 hir zr0 zr1 zr2 rfl (by decide) (.slice ar n cr) n (ptrs n rs) rfl HRV.out ⟨w7.heap.size, 0, none⟩ 1 1 [ptr br] rfl rfl new_cell (fun u hu => by simp at hu; subst hu; rfl) (by decide) (by have := HN.out; unfold maxLen; omega) (by have := HN.out; omega) (Nat.zero_le _) _ rfl ?_
    intro gr kr w8 ho hg hat hlt
    obtain ⟨q0, q1, q2, q3⟩ := HQl.out.1.push_r ho hg hat
    have e0 : w8.cell? ⟨W, 2, none⟩ = some (.slice ar n cr) := by rw [row_cell q0]; rfl
    have e1 : w8.frozen? ⟨W, 2, none⟩ = false := row_frozen q0 _
    have HQr : Hid _ := (⟨q1, q2, q3⟩ : _ ∧ _ ∧ _)
    clear ho hg hat hlt q0 q1 q2 q3)
  generalize w8.setCell ⟨W, 2, none⟩ (.slice (some ⟨gr, 0, none⟩) (n + 1) kr) = w9 at *
  clear d2 e0 e1
  go_wp2_with fail
  go_ret
  exact ⟨rfl, bc, bl, br, _, _, _, made_end HW.out HN.out HB.out HWS.out HQc.out.2.1 HQl.out.2.1 HQr.out.2.1 HQc.out.2.2 HQl.out.2.2 HQr.out.2.2 HQr.out.1⟩
end Go.Proofs.Yteajgodpdfcioaa
