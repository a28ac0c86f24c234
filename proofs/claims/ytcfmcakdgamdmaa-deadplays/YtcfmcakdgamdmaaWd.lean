/- The law's World: its rows, its lists, what came out. -/
import Derived.Test.YtcfmcakdgamdmaaRefPutD
import Derived.Test.YtcfmcakdgamdmaaRefFreeD
import Derived.Test.YtcfmcakdgamdmaaFreeW
import Derived.Test.YtcfmcakdgamdmaaSame
namespace Go.Proofs.Ytcfmcakdgamdmaa
open Go.RowKit

abbrev ptr (b : Nat) : Value := .pointer (some ⟨b, 0, none⟩)
def at_ {α : Type} (f : Nat → α) (i : Nat) (v : α) : Nat → α := fun k => if k = i then v else f k
theorem at_same {α : Type} (f : Nat → α) (i : Nat) (v : α) : at_ f i v i = v := by simp [at_]
theorem at_other {α : Type} {f : Nat → α} {i k : Nat} {v : α} (h : k ≠ i) : at_ f i v k = f k := by simp [at_, h]
def ptrs (n : Nat) (f : Nat → Nat) : List Value := (List.range n).map fun i => ptr (f i)
theorem ptrs_at {n i : Nat} {f : Nat → Nat} (h : i < n) : (ptrs n f)[i]? = some (ptr (f i)) := by simp [ptrs, h]
theorem ptrs_length (n : Nat) (f : Nat → Nat) : (ptrs n f).length = n := by simp [ptrs]
theorem ptrs_new {n b : Nat} {f : Nat → Nat} : ptrs (n + 1) (at_ f n b) = ptrs n f ++ [ptr b] := by
  simp only [ptrs, List.range_succ, List.map_append, List.map_cons, List.map_nil, at_same]
  congr 1
  apply List.map_congr_left
  intro i hi
  rw [at_other (by have := List.mem_range.1 hi; omega)]
theorem tag_eq {w : World} {k : Nat} {c c' : Array Value} {e e' : TypeId} {r r' : Nat × Nat} (h : w.heap[k]? = some (.cells c e r)) (h' : w.heap[k]? = some (.cells c' e' r')) : e = e' := by
  rw [h] at h'
  cases h'
  rfl
theorem set_far {w : World} {b i k : Nat} (v : Value) (h : k ≠ b) : (w.setCell ⟨b, i, none⟩ v).heap[k]? = w.heap[k]? := Below.heap_setCell w _ v k h
/-- The World's head and its rows. -/
structure Rows (B : Nat) (w : World) (W : Nat) (vl vr vp vq vx vy : Value) (n : Int) (xl xr xp xq xx xy : List Value) : Prop where
  head : w.heap[W]? = some (.cells #[vl, vr, vp, vq, vx, vy, .int .i64 n] 30 (0, 0))
  rl : w.ownsRow B 40 1 vl xl.length xl
  rr : w.ownsRow B 58 1 vr xr.length xr
  rp : w.ownsRow B 47 1 vp xp.length xp
  rq : w.ownsRow B 47 1 vq xq.length xq
  rx : w.ownsRow B 39 1 vx xx.length xx
  ry : w.ownsRow B 39 1 vy xy.length xy
  dp : ∀ k, vp.ownBlock = some k → vq.ownBlock ≠ some k
  dx : ∀ k, vx.ownBlock = some k → vy.ownBlock ≠ some k
  low : B ≤ W
/-- One thing more at the end of a row of the World. -/
theorem push_end {B : Nat} {w w1 : World} {W g1 k1 j : Nat} {T : TypeId} {cur : Array Value} {v x : Value} {xs : List Value} (hW : w.heap[W]? = some (.cells cur 30 (0, 0))) (ho : w.ownsRow B T 1 v xs.length xs) (hT : T ≠ 30) (h1 : w1.ownsRow B T 1 (.slice (some ⟨g1, 0, none⟩) (xs.length + 1) k1) (xs.length + 1) (xs ++ [x])) (hg : (w.alloc (.cells #[x] T)).grownBy w1 v.ownBlock) (ha : v.ownBlock = some g1 ∨ g1 = (w.alloc (.cells #[x] T)).heap.size) :
    w1.heap[W]? = some (.cells cur 30 (0, 0)) ∧ (w1.setCell ⟨W, j, none⟩ (.slice (some ⟨g1, 0, none⟩) (xs.length + 1) k1)).heap[W]? = some (.cells (cur.setIfInBounds j (.slice (some ⟨g1, 0, none⟩) (xs.length + 1) k1)) 30 (0, 0)) ∧ (w1.setCell ⟨W, j, none⟩ (.slice (some ⟨g1, 0, none⟩) (xs.length + 1) k1)).ownsRow B T 1 (.slice (some ⟨g1, 0, none⟩) (xs.length + 1) k1) (xs ++ [x]).length (xs ++ [x]) ∧ Kept (fun k => k = W ∨ v.ownBlock = some k) w (w1.setCell ⟨W, j, none⟩ (.slice (some ⟨g1, 0, none⟩) (xs.length + 1) k1)) ∧ (v.ownBlock = some g1 ∨ w.heap.size ≤ g1) := by
  have hWl : W < w.heap.size := (Array.getElem?_eq_some_iff.1 hW).1
  have ao : v.ownBlock ≠ some W := fun e => by
    obtain ⟨_, _, cur', hc⟩ := own_type ho W e
    exact hT (tag_eq hc hW)
  have hb1 : w1.heap[W]? = some (.cells cur 30 (0, 0)) := (hg.block W (by simp; omega) (fun e => ao e.symm)).trans (((below_new w _).block W hWl).trans hW)
  have hg1W : g1 ≠ W := fun e => by
    rcases ha with h | h
    · exact ao (e ▸ h)
    · simp at h; omega
  refine ⟨hb1, heap_set_same _ hb1, by rw [List.length_append]; exact own_kept h1 (setCell_kept _) (fun j hj e => by cases hj; exact hg1W e), ?_, ha.imp id fun e => by simp at e; omega⟩
  exact ((Kept.of_below (below_new w _)).trans (Kept.of_grown (S := fun k => v.ownBlock = some k) hg (fun _ e => e)) (fun _ _ e => .inr e)).trans (setCell_kept _) (fun _ _ e => .inl e)
theorem row_besides {B B' : Nat} {w w' : World} {W n m : Nat} {T T' : TypeId} {cur : Array Value} {v v' : Value} {xs ys : List Value} (hW : w.heap[W]? = some (.cells cur 30 (0, 0))) (h : w.ownsRow B T 1 v n xs) (h' : w.ownsRow B' T' 1 v' m ys) (k : Kept (fun k => k = W ∨ v'.ownBlock = some k) w w') (hT : T ≠ 30) (hT' : T ≠ T' ∨ ∀ k, v.ownBlock = some k → v'.ownBlock ≠ some k) : w'.ownsRow B T 1 v n xs := own_kept h k (fun j hj e => by
  obtain ⟨_, _, cur, hc⟩ := own_type h j hj
  rcases e with e | e
  · rw [e] at hc
    exact hT (tag_eq hc hW)
  · rcases hT' with hT' | hd
    · obtain ⟨_, _, cur', hc'⟩ := own_type h' j e
      exact hT' (tag_eq hc hc')
    · exact hd j hj e)
section
variable {B : Nat} {w w1 w' : World} {W g k : Nat} {vl vr vp vq vx vy x : Value} {n : Int} {xl xr xp xq xx xy : List Value}
theorem Rows.below (h : Rows B w W vl vr vp vq vx vy n xl xr xp xq xx xy) (hb : Below w.heap.size w w') : Rows B w' W vl vr vp vq vx vy n xl xr xp xq xx xy :=
  ⟨(hb.block W (Array.getElem?_eq_some_iff.1 h.head).1).trans h.head, own_here h.rl hb, own_here h.rr hb, own_here h.rp hb, own_here h.rq hb, own_here h.rx hb, own_here h.ry hb, h.dp, h.dx, h.low⟩
/-- While blocks of other types turn. -/
theorem Rows.far {S : Nat → Prop} (h : Rows B w W vl vr vp vq vx vy n xl xr xp xq xx xy) (hk : Kept S w w') (hS : ∀ k, S k → k < w.heap.size → ∃ cur t, w.heap[k]? = some (.cells cur t (0, 0)) ∧ t ≠ 30 ∧ t ≠ 40 ∧ t ≠ 58 ∧ t ≠ 47 ∧ t ≠ 39) : Rows B w' W vl vr vp vq vx vy n xl xr xp xq xx xy := by
  have row : ∀ (T : TypeId) (v : Value) (xs : List Value), (T = 40 ∨ T = 58 ∨ T = 47 ∨ T = 39) → w.ownsRow B T 1 v xs.length xs → w'.ownsRow B T 1 v xs.length xs := fun T v xs hT hr => own_kept hr hk fun j hj e => by
    obtain ⟨hl, _, cur, hc⟩ := own_type hr j hj
    obtain ⟨cur', t, hc', t1, t2, t3, t4, t5⟩ := hS j e hl
    have := tag_eq hc hc'
    rcases hT with h | h | h | h
    · exact t2 (this.symm.trans h)
    · exact t3 (this.symm.trans h)
    · exact t4 (this.symm.trans h)
    · exact t5 (this.symm.trans h)
  refine ⟨(hk.block W (Array.getElem?_eq_some_iff.1 h.head).1 fun e => ?_).trans h.head, row _ _ _ (.inl rfl) h.rl, row _ _ _ (.inr (.inl rfl)) h.rr, row _ _ _ (.inr (.inr (.inl rfl))) h.rp, row _ _ _ (.inr (.inr (.inl rfl))) h.rq, row _ _ _ (.inr (.inr (.inr rfl))) h.rx, row _ _ _ (.inr (.inr (.inr rfl))) h.ry, h.dp, h.dx, h.low⟩
  obtain ⟨cur, t, hc, t1, _⟩ := hS W e (Array.getElem?_eq_some_iff.1 h.head).1
  exact t1 (tag_eq hc h.head)
theorem Rows.cells (h : Rows B w W vl vr vp vq vx vy n xl xr xp xq xx xy) : w.cell? ⟨W, 0, none⟩ = some vl ∧ w.cell? ⟨W, 1, none⟩ = some vr ∧ w.cell? ⟨W, 2, none⟩ = some vp ∧ w.cell? ⟨W, 3, none⟩ = some vq ∧ w.cell? ⟨W, 4, none⟩ = some vx ∧ w.cell? ⟨W, 5, none⟩ = some vy ∧ w.cell? ⟨W, 6, none⟩ = some (.int .i64 n) :=
  ⟨by rw [row_cell h.head]; rfl, by rw [row_cell h.head]; rfl, by rw [row_cell h.head]; rfl, by rw [row_cell h.head]; rfl, by rw [row_cell h.head]; rfl, by rw [row_cell h.head]; rfl, by rw [row_cell h.head]; rfl⟩
theorem Rows.set_n (h : Rows B w W vl vr vp vq vx vy n xl xr xp xq xx xy) (m : Int) : Rows B (w.setCell ⟨W, 6, none⟩ (.int .i64 m)) W vl vr vp vq vx vy m xl xr xp xq xx xy := by
  have row : ∀ (T : TypeId) (v : Value) (xs : List Value), T ≠ 30 → w.ownsRow B T 1 v xs.length xs → (w.setCell ⟨W, 6, none⟩ (.int .i64 m)).ownsRow B T 1 v xs.length xs := fun T v xs hT hr => own_kept hr (setCell_kept _) fun j hj e => by
    obtain ⟨_, _, cur, hc⟩ := own_type hr j hj
    rw [e] at hc
    exact hT (tag_eq hc h.head)
  exact ⟨(heap_set_same _ h.head).trans (by simp), row _ _ _ (by decide) h.rl, row _ _ _ (by decide) h.rr, row _ _ _ (by decide) h.rp, row _ _ _ (by decide) h.rq, row _ _ _ (by decide) h.rx, row _ _ _ (by decide) h.ry, h.dp, h.dx, h.low⟩
theorem Rows.push_l (h : Rows B w W vl vr vp vq vx vy n xl xr xp xq xx xy) (h1 : w1.ownsRow B 40 1 (.slice (some ⟨g, 0, none⟩) (xl.length + 1) k) (xl.length + 1) (xl ++ [x])) (hg : (w.alloc (.cells #[x] 40)).grownBy w1 vl.ownBlock) (ha : vl.ownBlock = some g ∨ g = (w.alloc (.cells #[x] 40)).heap.size) :
    w1.heap[W]? = some (.cells #[vl, vr, vp, vq, vx, vy, .int .i64 n] 30 (0, 0)) ∧ Rows B (w1.setCell ⟨W, 0, none⟩ (.slice (some ⟨g, 0, none⟩) (xl.length + 1) k)) W (.slice (some ⟨g, 0, none⟩) (xl.length + 1) k) vr vp vq vx vy n (xl ++ [x]) xr xp xq xx xy ∧ Kept (fun k => k = W ∨ vl.ownBlock = some k) w (w1.setCell ⟨W, 0, none⟩ (.slice (some ⟨g, 0, none⟩) (xl.length + 1) k)) := by
  obtain ⟨h0, h2, h3, h4, h5⟩ := push_end (j := 0) h.head h.rl (by decide) h1 hg ha
  exact ⟨h0, ⟨(h2.trans (by simp)), h3, row_besides h.head h.rr h.rl h4 (by decide) (.inl (by decide)), row_besides h.head h.rp h.rl h4 (by decide) (.inl (by decide)), row_besides h.head h.rq h.rl h4 (by decide) (.inl (by decide)), row_besides h.head h.rx h.rl h4 (by decide) (.inl (by decide)), row_besides h.head h.ry h.rl h4 (by decide) (.inl (by decide)), h.dp, h.dx, h.low⟩, h4⟩
theorem Rows.push_r (h : Rows B w W vl vr vp vq vx vy n xl xr xp xq xx xy) (h1 : w1.ownsRow B 58 1 (.slice (some ⟨g, 0, none⟩) (xr.length + 1) k) (xr.length + 1) (xr ++ [x])) (hg : (w.alloc (.cells #[x] 58)).grownBy w1 vr.ownBlock) (ha : vr.ownBlock = some g ∨ g = (w.alloc (.cells #[x] 58)).heap.size) :
    w1.heap[W]? = some (.cells #[vl, vr, vp, vq, vx, vy, .int .i64 n] 30 (0, 0)) ∧ Rows B (w1.setCell ⟨W, 1, none⟩ (.slice (some ⟨g, 0, none⟩) (xr.length + 1) k)) W vl (.slice (some ⟨g, 0, none⟩) (xr.length + 1) k) vp vq vx vy n xl (xr ++ [x]) xp xq xx xy ∧ Kept (fun k => k = W ∨ vr.ownBlock = some k) w (w1.setCell ⟨W, 1, none⟩ (.slice (some ⟨g, 0, none⟩) (xr.length + 1) k)) := by
  obtain ⟨h0, h2, h3, h4, h5⟩ := push_end (j := 1) h.head h.rr (by decide) h1 hg ha
  exact ⟨h0, ⟨(h2.trans (by simp)), row_besides h.head h.rl h.rr h4 (by decide) (.inl (by decide)), h3, row_besides h.head h.rp h.rr h4 (by decide) (.inl (by decide)), row_besides h.head h.rq h.rr h4 (by decide) (.inl (by decide)), row_besides h.head h.rx h.rr h4 (by decide) (.inl (by decide)), row_besides h.head h.ry h.rr h4 (by decide) (.inl (by decide)), h.dp, h.dx, h.low⟩, h4⟩
theorem Rows.push_p (h : Rows B w W vl vr vp vq vx vy n xl xr xp xq xx xy) (h1 : w1.ownsRow B 47 1 (.slice (some ⟨g, 0, none⟩) (xp.length + 1) k) (xp.length + 1) (xp ++ [x])) (hg : (w.alloc (.cells #[x] 47)).grownBy w1 vp.ownBlock) (ha : vp.ownBlock = some g ∨ g = (w.alloc (.cells #[x] 47)).heap.size) :
    w1.heap[W]? = some (.cells #[vl, vr, vp, vq, vx, vy, .int .i64 n] 30 (0, 0)) ∧ Rows B (w1.setCell ⟨W, 2, none⟩ (.slice (some ⟨g, 0, none⟩) (xp.length + 1) k)) W vl vr (.slice (some ⟨g, 0, none⟩) (xp.length + 1) k) vq vx vy n xl xr (xp ++ [x]) xq xx xy ∧ Kept (fun k => k = W ∨ vp.ownBlock = some k) w (w1.setCell ⟨W, 2, none⟩ (.slice (some ⟨g, 0, none⟩) (xp.length + 1) k)) := by
  obtain ⟨h0, h2, h3, h4, h5⟩ := push_end (j := 2) h.head h.rp (by decide) h1 hg ha
  exact ⟨h0, ⟨(h2.trans (by simp)), row_besides h.head h.rl h.rp h4 (by decide) (.inl (by decide)), row_besides h.head h.rr h.rp h4 (by decide) (.inl (by decide)), h3, row_besides h.head h.rq h.rp h4 (by decide) (.inr fun k hk e => h.dp k e hk), row_besides h.head h.rx h.rp h4 (by decide) (.inl (by decide)), row_besides h.head h.ry h.rp h4 (by decide) (.inl (by decide)), (fun j hj e => by
    cases hj
    rcases h5 with q | q
    · exact h.dp g q e
    · have := (own_type h.rq g e).1
      omega), h.dx, h.low⟩, h4⟩
theorem Rows.push_q (h : Rows B w W vl vr vp vq vx vy n xl xr xp xq xx xy) (h1 : w1.ownsRow B 47 1 (.slice (some ⟨g, 0, none⟩) (xq.length + 1) k) (xq.length + 1) (xq ++ [x])) (hg : (w.alloc (.cells #[x] 47)).grownBy w1 vq.ownBlock) (ha : vq.ownBlock = some g ∨ g = (w.alloc (.cells #[x] 47)).heap.size) :
    w1.heap[W]? = some (.cells #[vl, vr, vp, vq, vx, vy, .int .i64 n] 30 (0, 0)) ∧ Rows B (w1.setCell ⟨W, 3, none⟩ (.slice (some ⟨g, 0, none⟩) (xq.length + 1) k)) W vl vr vp (.slice (some ⟨g, 0, none⟩) (xq.length + 1) k) vx vy n xl xr xp (xq ++ [x]) xx xy ∧ Kept (fun k => k = W ∨ vq.ownBlock = some k) w (w1.setCell ⟨W, 3, none⟩ (.slice (some ⟨g, 0, none⟩) (xq.length + 1) k)) := by
  obtain ⟨h0, h2, h3, h4, h5⟩ := push_end (j := 3) h.head h.rq (by decide) h1 hg ha
  exact ⟨h0, ⟨(h2.trans (by simp)), row_besides h.head h.rl h.rq h4 (by decide) (.inl (by decide)), row_besides h.head h.rr h.rq h4 (by decide) (.inl (by decide)), row_besides h.head h.rp h.rq h4 (by decide) (.inr h.dp), h3, row_besides h.head h.rx h.rq h4 (by decide) (.inl (by decide)), row_besides h.head h.ry h.rq h4 (by decide) (.inl (by decide)), (fun j hj e => by
    cases e
    rcases h5 with q | q
    · exact h.dp g hj q
    · have := (own_type h.rp g hj).1
      omega), h.dx, h.low⟩, h4⟩
theorem Rows.push_x (h : Rows B w W vl vr vp vq vx vy n xl xr xp xq xx xy) (h1 : w1.ownsRow B 39 1 (.slice (some ⟨g, 0, none⟩) (xx.length + 1) k) (xx.length + 1) (xx ++ [x])) (hg : (w.alloc (.cells #[x] 39)).grownBy w1 vx.ownBlock) (ha : vx.ownBlock = some g ∨ g = (w.alloc (.cells #[x] 39)).heap.size) :
    w1.heap[W]? = some (.cells #[vl, vr, vp, vq, vx, vy, .int .i64 n] 30 (0, 0)) ∧ Rows B (w1.setCell ⟨W, 4, none⟩ (.slice (some ⟨g, 0, none⟩) (xx.length + 1) k)) W vl vr vp vq (.slice (some ⟨g, 0, none⟩) (xx.length + 1) k) vy n xl xr xp xq (xx ++ [x]) xy ∧ Kept (fun k => k = W ∨ vx.ownBlock = some k) w (w1.setCell ⟨W, 4, none⟩ (.slice (some ⟨g, 0, none⟩) (xx.length + 1) k)) := by
  obtain ⟨h0, h2, h3, h4, h5⟩ := push_end (j := 4) h.head h.rx (by decide) h1 hg ha
  exact ⟨h0, ⟨(h2.trans (by simp)), row_besides h.head h.rl h.rx h4 (by decide) (.inl (by decide)), row_besides h.head h.rr h.rx h4 (by decide) (.inl (by decide)), row_besides h.head h.rp h.rx h4 (by decide) (.inl (by decide)), row_besides h.head h.rq h.rx h4 (by decide) (.inl (by decide)), h3, row_besides h.head h.ry h.rx h4 (by decide) (.inr fun k hk e => h.dx k e hk), h.dp, (fun j hj e => by
    cases hj
    rcases h5 with q | q
    · exact h.dx g q e
    · have := (own_type h.ry g e).1
      omega), h.low⟩, h4⟩
theorem Rows.push_y (h : Rows B w W vl vr vp vq vx vy n xl xr xp xq xx xy) (h1 : w1.ownsRow B 39 1 (.slice (some ⟨g, 0, none⟩) (xy.length + 1) k) (xy.length + 1) (xy ++ [x])) (hg : (w.alloc (.cells #[x] 39)).grownBy w1 vy.ownBlock) (ha : vy.ownBlock = some g ∨ g = (w.alloc (.cells #[x] 39)).heap.size) :
    w1.heap[W]? = some (.cells #[vl, vr, vp, vq, vx, vy, .int .i64 n] 30 (0, 0)) ∧ Rows B (w1.setCell ⟨W, 5, none⟩ (.slice (some ⟨g, 0, none⟩) (xy.length + 1) k)) W vl vr vp vq vx (.slice (some ⟨g, 0, none⟩) (xy.length + 1) k) n xl xr xp xq xx (xy ++ [x]) ∧ Kept (fun k => k = W ∨ vy.ownBlock = some k) w (w1.setCell ⟨W, 5, none⟩ (.slice (some ⟨g, 0, none⟩) (xy.length + 1) k)) := by
  obtain ⟨h0, h2, h3, h4, h5⟩ := push_end (j := 5) h.head h.ry (by decide) h1 hg ha
  exact ⟨h0, ⟨(h2.trans (by simp)), row_besides h.head h.rl h.ry h4 (by decide) (.inl (by decide)), row_besides h.head h.rr h.ry h4 (by decide) (.inl (by decide)), row_besides h.head h.rp h.ry h4 (by decide) (.inl (by decide)), row_besides h.head h.rq h.ry h4 (by decide) (.inl (by decide)), row_besides h.head h.rx h.ry h4 (by decide) (.inr h.dx), h3, h.dp, (fun j hj e => by
    cases e
    rcases h5 with q | q
    · exact h.dx g hj q
    · have := (own_type h.rx g hj).1
      omega), h.low⟩, h4⟩
end
/-- The lists, and what came out. -/
structure Core (B m : Nat) (w : World) (cs rs : Nat → Nat) (va vb : Nat → Value) (LA LB : Nat → List Lf) (P Q : List (Value × List Int)) (X Y : List (Value × List Lf)) : Prop where
  ls : ∀ i, i < m → ListAt B w (cs i) (va i) (LA i)
  re : ∀ i, i < m → RefAt B w (rs i) (vb i) (LB i)
  d1 : ∀ i j, i < m → j < m → cs i = cs j → i = j
  d2 : ∀ i j, i < m → j < m → rs i = rs j → i = j
  d3 : ∀ i j k, i < m → j < m → (va i).ownBlock = some k → (va j).ownBlock = some k → i = j
  d4 : ∀ i j k, i < m → j < m → (va i).ownBlock = some k → (vb j).ownBlock ≠ some k
  d5 : ∀ i k, i < m → (va i).ownBlock = some k → ∀ p ∈ X ++ Y, p.1.ownBlock ≠ some k
  oP : ∀ p ∈ P, NewI B w p.1 p.2
  oQ : ∀ p ∈ Q, NewI B w p.1 p.2
  oX : ∀ p ∈ X, NewL B w p.1 p.2
  oY : ∀ p ∈ Y, NewL B w p.1 p.2
  aP : P.Pairwise fun p q => ∀ k, p.1.ownBlock = some k → q.1.ownBlock ≠ some k
  aPQ : ∀ p ∈ P, ∀ q ∈ Q, ∀ k, p.1.ownBlock = some k → q.1.ownBlock ≠ some k
  aX : X.Pairwise fun p q => ∀ k, p.1.ownBlock = some k → q.1.ownBlock ≠ some k
  aXY : ∀ p ∈ X, ∀ q ∈ Y, ∀ k, p.1.ownBlock = some k → q.1.ownBlock ≠ some k
  hB : B ≤ w.heap.size
section
variable {B m : Nat} {w w' : World} {cs rs : Nat → Nat} {va vb : Nat → Value} {LA LB : Nat → List Lf} {P Q : List (Value × List Int)} {X Y : List (Value × List Lf)} {i : Nat}
theorem ListAt.keptBy {S : Nat → Prop} {b : Nat} {v : Value} {L : List Lf} (h : ListAt B w b v L) (hk : Kept S w w') (h1 : ¬ S b) (h2 : ∀ k, v.ownBlock = some k → ¬ S k) : ListAt B w' b v L := ⟨(hk.block b h.lt h1).trans h.cells, own_kept h.row hk h2, h.ok, h.low, h.short⟩
theorem RefAt.kept {S : Nat → Prop} {b : Nat} {v : Value} {L : List Lf} (h : RefAt B w b v L) (hk : Kept S w w') (h1 : ¬ S b) (h2 : ∀ k, v.ownBlock = some k → ¬ S k) : RefAt B w' b v L := ⟨(hk.block b h.lt h1).trans h.cells, own_kept h.row hk h2, h.low⟩
/-- While blocks of other types turn. -/
theorem Core.far {S : Nat → Prop} (h : Core B m w cs rs va vb LA LB P Q X Y) (hk : Kept S w w') (hS : ∀ k, S k → k < w.heap.size → ∃ cur t, w.heap[k]? = some (.cells cur t (0, 0)) ∧ t ≠ 63 ∧ t ≠ 73 ∧ t ≠ 34 ∧ t ≠ 3) : Core B m w' cs rs va vb LA LB P Q X Y := by
  have no : ∀ (k : Nat) (cur : Array Value) (t : TypeId), w.heap[k]? = some (.cells cur t (0, 0)) → (t = 63 ∨ t = 73 ∨ t = 34 ∨ t = 3) → ¬ S k := fun k cur t hc ht hs => by
    obtain ⟨cur', t', hc', t1, t2, t3, t4⟩ := hS k hs (Array.getElem?_eq_some_iff.1 hc).1
    have := tag_eq hc' hc
    rcases ht with e | e | e | e
    · exact t1 (this.trans e)
    · exact t2 (this.trans e)
    · exact t3 (this.trans e)
    · exact t4 (this.trans e)
  have life : ∀ (base : Nat) (v : Value) (L : List Lf), NewL base w v L → ∀ k, v.ownBlock = some k → ¬ S k := fun base v L hv k hk => by
    obtain ⟨_, _, cur, hc⟩ := own_type hv k hk
    exact no k cur _ hc (.inr (.inr (.inl rfl)))
  have nums : ∀ (base : Nat) (v : Value) (L : List Int), NewI base w v L → ∀ k, v.ownBlock = some k → ¬ S k := fun base v L hv k hk => by
    obtain ⟨_, _, cur, hc⟩ := own_type hv k hk
    exact no k cur _ hc (.inr (.inr (.inr rfl)))
  exact ⟨fun j hj => (h.ls j hj).keptBy hk (no _ _ _ (h.ls j hj).cells (.inl rfl)) (life _ _ _ (h.ls j hj).row), fun j hj => (h.re j hj).kept hk (no _ _ _ (h.re j hj).cells (.inr (.inl rfl))) (life _ _ _ (h.re j hj).row), h.d1, h.d2, h.d3, h.d4, h.d5, fun p hp => own_kept (h.oP p hp) hk (nums _ _ _ (h.oP p hp)), fun p hp => own_kept (h.oQ p hp) hk (nums _ _ _ (h.oQ p hp)), fun p hp => own_kept (h.oX p hp) hk (life _ _ _ (h.oX p hp)), fun p hp => own_kept (h.oY p hp) hk (life _ _ _ (h.oY p hp)), h.aP, h.aPQ, h.aX, h.aXY, Nat.le_trans h.hB hk.size⟩
theorem Core.below (h : Core B m w cs rs va vb LA LB P Q X Y) (hb : Below w.heap.size w w') : Core B m w' cs rs va vb LA LB P Q X Y := h.far (S := fun _ => False) (Kept.of_below hb) (fun _ h => h.elim)
/-- A call on a list of the program's. -/
theorem Core.put_l {v' : Value} {L' : List Lf} (h : Core B m w cs rs va vb LA LB P Q X Y) (hi : i < m) (hk : Kept (Its (cs i) (va i)) w w') (hl : ListAt B w' (cs i) v' L') (hm : ∀ k, v'.ownBlock = some k → (va i).ownBlock = some k ∨ w.heap.size ≤ k) : Core B m w' cs rs (at_ va i v') vb (at_ LA i L') LB P Q X Y := by
  have tl := (h.ls i hi).cells
  have rowa : ∀ k, (va i).ownBlock = some k → ∃ cur, w.heap[k]? = some (.cells cur 34 (0, 0)) := fun k hk => (own_type (h.ls i hi).row k hk).2.2
  have no : ∀ (k : Nat) (cur : Array Value) (t : TypeId), w.heap[k]? = some (.cells cur t (0, 0)) → t ≠ 63 → t ≠ 34 → ¬ Its (cs i) (va i) k := fun k cur t hc h1 h2 hs => by
    rcases hs with e | e
    · rw [e] at hc
      exact h1 (tag_eq hc tl)
    · obtain ⟨cur', hc'⟩ := rowa k e
      exact h2 (tag_eq hc hc')
  have life : ∀ (v : Value) (L : List Lf), NewL B w v L → (∀ k, v.ownBlock = some k → (va i).ownBlock ≠ some k) → ∀ k, v.ownBlock = some k → ¬ Its (cs i) (va i) k := fun v L hv hd k hk hs => by
    obtain ⟨_, _, cur, hc⟩ := own_type hv k hk
    rcases hs with e | e
    · rw [e] at hc
      exact absurd (tag_eq hc tl) (by decide)
    · exact hd k hk e
  have nums : ∀ (v : Value) (L : List Int), NewI B w v L → ∀ k, v.ownBlock = some k → ¬ Its (cs i) (va i) k := fun v L hv k hk => by
    obtain ⟨_, _, cur, hc⟩ := own_type hv k hk
    exact no k cur _ hc (by decide) (by decide)
  have lt : ∀ j k, j < m → (va j).ownBlock = some k → k < w.heap.size := fun j k hj hk => (own_type (h.ls j hj).row k hk).1
  refine ⟨fun j hj => ?_, fun j hj => (h.re j hj).kept hk (no _ _ _ (h.re j hj).cells (by decide) (by decide)) (life _ _ (h.re j hj).row fun k hk e => h.d4 i j k hi hj e hk), h.d1, h.d2, fun a b k ha hb h1 h2 => ?_, fun a b k ha hb h1 => ?_, fun a k ha h1 p hp => ?_, fun p hp => own_kept (h.oP p hp) hk (nums _ _ (h.oP p hp)), fun p hp => own_kept (h.oQ p hp) hk (nums _ _ (h.oQ p hp)), fun p hp => own_kept (h.oX p hp) hk (life _ _ (h.oX p hp) fun k hk e => h.d5 i k hi e p (List.mem_append.2 (.inl hp)) hk), fun p hp => own_kept (h.oY p hp) hk (life _ _ (h.oY p hp) fun k hk e => h.d5 i k hi e p (List.mem_append.2 (.inr hp)) hk), h.aP, h.aPQ, h.aX, h.aXY, Nat.le_trans h.hB hk.size⟩
  · by_cases e : j = i
    · subst e
      rw [at_same, at_same]
      exact hl
    · rw [at_other e, at_other e]
      refine (h.ls j hj).keptBy hk (fun hs => ?_) (life _ _ (h.ls j hj).row fun k hk e' => e (h.d3 j i k hj hi hk e'))
      rcases hs with e' | e'
      · exact e (h.d1 j i hj hi e')
      · obtain ⟨cur', hc'⟩ := rowa _ e'
        exact absurd (tag_eq (h.ls j hj).cells hc') (by decide)
  · by_cases ea : a = i <;> by_cases eb : b = i
    · rw [ea, eb]
    · rw [ea, at_same] at h1
      rw [at_other eb] at h2
      rcases hm k h1 with h1 | h1
      · exact ea.trans (h.d3 i b k hi hb h1 h2)
      · have := lt b k hb h2; omega
    · rw [eb, at_same] at h2
      rw [at_other ea] at h1
      rcases hm k h2 with h2 | h2
      · exact (h.d3 a i k ha hi h1 h2).trans eb.symm
      · have := lt a k ha h1; omega
    · rw [at_other ea] at h1
      rw [at_other eb] at h2
      exact h.d3 a b k ha hb h1 h2
  · by_cases ea : a = i
    · rw [ea, at_same] at h1
      rcases hm k h1 with h1 | h1
      · exact h.d4 i b k hi hb h1
      · intro e
        have := (own_type (h.re b hb).row k e).1
        omega
    · rw [at_other ea] at h1
      exact h.d4 a b k ha hb h1
  · by_cases ea : a = i
    · rw [ea, at_same] at h1
      rcases hm k h1 with h1 | h1
      · exact h.d5 i k hi h1 p hp
      · intro e
        rcases List.mem_append.1 hp with hp | hp
        · have := (own_type (h.oX p hp) k e).1; omega
        · have := (own_type (h.oY p hp) k e).1; omega
    · rw [at_other ea] at h1
      exact h.d5 a k ha h1 p hp
/-- A call on one of the document's. -/
theorem Core.put_r {v' : Value} {L' : List Lf} (h : Core B m w cs rs va vb LA LB P Q X Y) (hi : i < m) (hk : Kept (fun k => k = rs i) w w') (hl : RefAt B w' (rs i) v' L') (hm : ∀ k, v'.ownBlock = some k → (vb i).ownBlock = some k ∨ w.heap.size ≤ k) : Core B m w' cs rs va (at_ vb i v') LA (at_ LB i L') P Q X Y := by
  have tl := (h.re i hi).cells
  have no : ∀ (k : Nat) (cur : Array Value) (t : TypeId), w.heap[k]? = some (.cells cur t (0, 0)) → t ≠ 73 → ¬ k = rs i := fun k cur t hc h1 e => by
    rw [e] at hc
    exact h1 (tag_eq hc tl)
  have life : ∀ (v : Value) (L : List Lf), NewL B w v L → ∀ k, v.ownBlock = some k → ¬ k = rs i := fun v L hv k hk => by
    obtain ⟨_, _, cur, hc⟩ := own_type hv k hk
    exact no k cur _ hc (by decide)
  have nums : ∀ (v : Value) (L : List Int), NewI B w v L → ∀ k, v.ownBlock = some k → ¬ k = rs i := fun v L hv k hk => by
    obtain ⟨_, _, cur, hc⟩ := own_type hv k hk
    exact no k cur _ hc (by decide)
  refine ⟨fun j hj => (h.ls j hj).keptBy hk (no _ _ _ (h.ls j hj).cells (by decide)) (life _ _ (h.ls j hj).row), fun j hj => ?_, h.d1, h.d2, h.d3, fun a b k ha hb h1 => ?_, h.d5, fun p hp => own_kept (h.oP p hp) hk (nums _ _ (h.oP p hp)), fun p hp => own_kept (h.oQ p hp) hk (nums _ _ (h.oQ p hp)), fun p hp => own_kept (h.oX p hp) hk (life _ _ (h.oX p hp)), fun p hp => own_kept (h.oY p hp) hk (life _ _ (h.oY p hp)), h.aP, h.aPQ, h.aX, h.aXY, Nat.le_trans h.hB hk.size⟩
  · by_cases e : j = i
    · subst e
      rw [at_same, at_same]
      exact hl
    · rw [at_other e, at_other e]
      exact (h.re j hj).kept hk (fun hs => e (h.d2 j i hj hi hs)) (life _ _ (h.re j hj).row)
  · by_cases eb : b = i
    · rw [eb, at_same]
      intro e
      rcases hm k e with e | e
      · exact h.d4 a i k ha hi h1 e
      · have := (own_type (h.ls a ha).row k h1).1; omega
    · rw [at_other eb]
      exact h.d4 a b k ha hb h1
/-- More that came out, of new memory. -/
theorem Core.more_p {a b : Value} {xs ys : List Int} (h : Core B m w cs rs va vb LA LB P Q X Y) (ha : NewI B w a xs) (hb : NewI B w b ys) (fa : ∀ p ∈ P ++ Q, ∀ k, a.ownBlock = some k → p.1.ownBlock ≠ some k) (fb : ∀ p ∈ P, ∀ k, b.ownBlock = some k → p.1.ownBlock ≠ some k) (fab : ∀ k, a.ownBlock = some k → b.ownBlock ≠ some k) : Core B m w cs rs va vb LA LB (P ++ [(a, xs)]) (Q ++ [(b, ys)]) X Y := by
  refine ⟨h.ls, h.re, h.d1, h.d2, h.d3, h.d4, h.d5, fun p hp => ?_, fun p hp => ?_, h.oX, h.oY, ?_, fun p hp q hq => ?_, h.aX, h.aXY, h.hB⟩
  · rcases List.mem_append.1 hp with hp | hp
    · exact h.oP p hp
    · simp at hp; subst hp; exact ha
  · rcases List.mem_append.1 hp with hp | hp
    · exact h.oQ p hp
    · simp at hp; subst hp; exact hb
  · rw [List.pairwise_append]
    refine ⟨h.aP, by simp, fun p hp q hq k hk e => ?_⟩
    simp at hq
    subst hq
    exact fa p (List.mem_append.2 (.inl hp)) k e hk
  · rcases List.mem_append.1 hp with hp | hp <;> rcases List.mem_append.1 hq with hq | hq
    · exact h.aPQ p hp q hq
    · simp at hq; subst hq
      exact fun k hk e => fb p hp k e hk
    · simp at hp; subst hp
      exact fun k hk => fa q (List.mem_append.2 (.inr hq)) k hk
    · simp at hp hq; subst hp hq
      exact fab
theorem Core.more_x {a b : Value} {xs ys : List Lf} (h : Core B m w cs rs va vb LA LB P Q X Y) (ha : NewL B w a xs) (hb : NewL B w b ys) (fa : ∀ p ∈ X ++ Y, ∀ k, a.ownBlock = some k → p.1.ownBlock ≠ some k) (fb : ∀ p ∈ X, ∀ k, b.ownBlock = some k → p.1.ownBlock ≠ some k) (fab : ∀ k, a.ownBlock = some k → b.ownBlock ≠ some k) (fv : ∀ i k, i < m → (va i).ownBlock = some k → a.ownBlock ≠ some k ∧ b.ownBlock ≠ some k) : Core B m w cs rs va vb LA LB P Q (X ++ [(a, xs)]) (Y ++ [(b, ys)]) := by
  refine ⟨h.ls, h.re, h.d1, h.d2, h.d3, h.d4, fun i k hi hk p hp => ?_, h.oP, h.oQ, fun p hp => ?_, fun p hp => ?_, h.aP, h.aPQ, ?_, fun p hp q hq => ?_, h.hB⟩
  · rcases List.mem_append.1 hp with hp | hp
    · rcases List.mem_append.1 hp with hp | hp
      · exact h.d5 i k hi hk p (List.mem_append.2 (.inl hp))
      · simp at hp; subst hp; exact (fv i k hi hk).1
    · rcases List.mem_append.1 hp with hp | hp
      · exact h.d5 i k hi hk p (List.mem_append.2 (.inr hp))
      · simp at hp; subst hp; exact (fv i k hi hk).2
  · rcases List.mem_append.1 hp with hp | hp
    · exact h.oX p hp
    · simp at hp; subst hp; exact ha
  · rcases List.mem_append.1 hp with hp | hp
    · exact h.oY p hp
    · simp at hp; subst hp; exact hb
  · rw [List.pairwise_append]
    refine ⟨h.aX, by simp, fun p hp q hq k hk e => ?_⟩
    simp at hq
    subst hq
    exact fa p (List.mem_append.2 (.inl hp)) k e hk
  · rcases List.mem_append.1 hp with hp | hp <;> rcases List.mem_append.1 hq with hq | hq
    · exact h.aXY p hp q hq
    · simp at hq; subst hq
      exact fun k hk e => fb p hp k e hk
    · simp at hp; subst hp
      exact fun k hk => fa q (List.mem_append.2 (.inr hq)) k hk
    · simp at hp hq; subst hp hq
      exact fab
/-- A list more of each kind. -/
theorem Core.more_l {bc br : Nat} (h : Core B m w cs rs va vb LA LB P Q X Y) (hl : ListAt B w bc (.slice none 0 0) []) (hr : RefAt B w br (.slice none 0 0) []) (f1 : ∀ i, i < m → cs i ≠ bc) (f2 : ∀ i, i < m → rs i ≠ br) : Core B (m + 1) w (at_ cs m bc) (at_ rs m br) (at_ va m (.slice none 0 0)) (at_ vb m (.slice none 0 0)) (at_ LA m []) (at_ LB m []) P Q X Y := by
  refine ⟨fun i hi => ?_, fun i hi => ?_, fun i j hi hj e => ?_, fun i j hi hj e => ?_, fun i j k hi hj h1 h2 => ?_, fun i j k hi hj h1 => ?_, fun i k hi h1 => ?_, h.oP, h.oQ, h.oX, h.oY, h.aP, h.aPQ, h.aX, h.aXY, h.hB⟩
  · by_cases e : i = m
    · subst e; rw [at_same, at_same, at_same]; exact hl
    · rw [at_other e, at_other e, at_other e]; exact h.ls i (by omega)
  · by_cases e : i = m
    · subst e; rw [at_same, at_same, at_same]; exact hr
    · rw [at_other e, at_other e, at_other e]; exact h.re i (by omega)
  · by_cases e1 : i = m <;> by_cases e2 : j = m
    · omega
    · rw [e1, at_same, at_other e2] at e; exact absurd e.symm (f1 j (by omega))
    · rw [e2, at_same, at_other e1] at e; exact absurd e (f1 i (by omega))
    · rw [at_other e1, at_other e2] at e; exact h.d1 i j (by omega) (by omega) e
  · by_cases e1 : i = m <;> by_cases e2 : j = m
    · omega
    · rw [e1, at_same, at_other e2] at e; exact absurd e.symm (f2 j (by omega))
    · rw [e2, at_same, at_other e1] at e; exact absurd e (f2 i (by omega))
    · rw [at_other e1, at_other e2] at e; exact h.d2 i j (by omega) (by omega) e
  · by_cases e1 : i = m
    · rw [e1, at_same] at h1; cases h1
    · by_cases e2 : j = m
      · rw [e2, at_same] at h2; cases h2
      · rw [at_other e1] at h1; rw [at_other e2] at h2; exact h.d3 i j k (by omega) (by omega) h1 h2
  · by_cases e1 : i = m
    · rw [e1, at_same] at h1; cases h1
    · rw [at_other e1] at h1
      by_cases e2 : j = m
      · rw [e2, at_same]; intro e; cases e
      · rw [at_other e2]; exact h.d4 i j k (by omega) (by omega) h1
  · by_cases e1 : i = m
    · rw [e1, at_same] at h1; cases h1
    · rw [at_other e1] at h1; exact h.d5 i k (by omega) h1
end
end Go.Proofs.Ytcfmcakdgamdmaa
