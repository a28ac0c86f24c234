/- What came out, as it lies at the end. -/
import Derived.Test.YtcfmcakdgamdmaaStepD
namespace Go.Proofs.Ytcfmcakdgamdmaa
open Go.RowKit

def pl {α : Type} (N : Nat) (f : Nat → Value × α) : List Value := (List.range N).map fun i => (f i).1
theorem pl_at {α : Type} {N i : Nat} {f : Nat → Value × α} (h : i < N) : (pl N f)[i]? = some (f i).1 := by simp [pl, h]
theorem pl_set {α : Type} {N i : Nat} {f : Nat → Value × α} {v : Value} {x : α} (h : i < N) : (pl N f).set i v = pl N (at_ f i (v, x)) := by
  apply List.ext_getElem?
  intro j
  unfold pl
  rw [List.getElem?_set, List.getElem?_map, List.getElem?_map]
  by_cases e : i = j
  · subst e
    simp [h, at_same]
  · rw [if_neg e]
    by_cases hj : j < N
    · simp [hj, at_other (Ne.symm e)]
    · simp [hj]
theorem pl_same {α : Type} {N i : Nat} {f : Nat → Value × α} {x : α} : pl N (at_ f i ((f i).1, x)) = pl N f := by
  unfold pl
  apply List.map_congr_left
  intro j _
  by_cases e : j = i
  · subst e; rw [at_same]
  · rw [at_other e]
/-- What came out: its rows, its lists, each of its own memory. -/
structure En (B : Nat) (w : World) (W : Nat) (vl vr vp vq vx vy : Value) (c : Int) (N M : Nat) (f g : Nat → Value × List Int) (s t : Nat → Value × List Lf) : Prop where
  head : w.heap[W]? = some (.cells #[vl, vr, vp, vq, vx, vy, .int .i64 c] 30 (0, 0))
  rp : w.ownsRow B 47 1 vp N (pl N f)
  rq : w.ownsRow B 47 1 vq N (pl N g)
  rx : w.ownsRow B 39 1 vx M (pl M s)
  ry : w.ownsRow B 39 1 vy M (pl M t)
  dp : ∀ k, vp.ownBlock = some k → vq.ownBlock ≠ some k
  dx : ∀ k, vx.ownBlock = some k → vy.ownBlock ≠ some k
  ip : ∀ i, i < N → NewI B w (f i).1 (f i).2
  iq : ∀ i, i < N → NewI B w (g i).1 (g i).2
  ix : ∀ i, i < M → NewL B w (s i).1 (s i).2
  iy : ∀ i, i < M → NewL B w (t i).1 (t i).2
  sp : ∀ i, i < N → (f i).2 = (g i).2
  sx : ∀ i, i < M → (s i).2 = (t i).2
  ap : ∀ i j k, i < N → j < N → (f i).1.ownBlock = some k → (f j).1.ownBlock = some k → i = j
  bp : ∀ i j k, i < N → j < N → (f i).1.ownBlock = some k → (g j).1.ownBlock ≠ some k
  ax : ∀ i j k, i < M → j < M → (s i).1.ownBlock = some k → (s j).1.ownBlock = some k → i = j
  bx : ∀ i j k, i < M → j < M → (s i).1.ownBlock = some k → (t j).1.ownBlock ≠ some k
  hB : B ≤ w.heap.size
section
variable {B : Nat} {w w' : World} {W : Nat} {vl vr vp vq vx vy : Value} {c : Int} {N M : Nat} {f g : Nat → Value × List Int} {s t : Nat → Value × List Lf}
theorem En.below (h : En B w W vl vr vp vq vx vy c N M f g s t) (hb : Below w.heap.size w w') : En B w' W vl vr vp vq vx vy c N M f g s t :=
  ⟨(hb.block W (Array.getElem?_eq_some_iff.1 h.head).1).trans h.head, own_here h.rp hb, own_here h.rq hb, own_here h.rx hb, own_here h.ry hb, h.dp, h.dx, fun i hi => own_here (h.ip i hi) hb, fun i hi => own_here (h.iq i hi) hb, fun i hi => own_here (h.ix i hi) hb, fun i hi => own_here (h.iy i hi) hb, h.sp, h.sx, h.ap, h.bp, h.ax, h.bx, Nat.le_trans h.hB hb.size⟩
theorem En.cells (h : En B w W vl vr vp vq vx vy c N M f g s t) : w.cell? ⟨W, 2, none⟩ = some vp ∧ w.cell? ⟨W, 3, none⟩ = some vq ∧ w.cell? ⟨W, 4, none⟩ = some vx ∧ w.cell? ⟨W, 5, none⟩ = some vy :=
  ⟨by rw [row_cell h.head]; rfl, by rw [row_cell h.head]; rfl, by rw [row_cell h.head]; rfl, by rw [row_cell h.head]; rfl⟩
theorem En.turn_p {v' u : Value} {xs : List Int} {n : Nat} (h : En B w W vl vr vp vq vx vy c N M f g s t) (hn : n < N) (hk : Kept (fun k => (f n).1.ownBlock = some k ∨ vp.ownBlock = some k ∨ vq.ownBlock = some k) w w') (hp : w'.ownsRow B 47 1 vp N (pl N (at_ f n (v', xs)))) (hq : w'.ownsRow B 47 1 vq N (pl N (at_ g n (u, xs)))) (hv : NewI B w' v' xs) (hu : NewI B w' u xs)
    (fv : ∀ k, v'.ownBlock = some k → (f n).1.ownBlock = some k ∨ w.heap.size ≤ k) (fu : ∀ k, u.ownBlock = some k → w.heap.size ≤ k) (fuv : ∀ k, v'.ownBlock = some k → u.ownBlock ≠ some k) : En B w' W vl vr vp vq vx vy c N M (at_ f n (v', xs)) (at_ g n (u, xs)) s t := by
  have typ : ∀ k, ((f n).1.ownBlock = some k ∨ vp.ownBlock = some k ∨ vq.ownBlock = some k) → ∃ cur t', w.heap[k]? = some (.cells cur t' (0, 0)) ∧ (t' = 3 ∨ t' = 47) := fun k e => by
    rcases e with e | e | e
    · obtain ⟨_, _, cur, hc⟩ := own_type (h.ip n hn) k e; exact ⟨_, _, hc, .inl rfl⟩
    · obtain ⟨_, _, cur, hc⟩ := own_type h.rp k e; exact ⟨_, _, hc, .inr rfl⟩
    · obtain ⟨_, _, cur, hc⟩ := own_type h.rq k e; exact ⟨_, _, hc, .inr rfl⟩
  have no : ∀ (T' : TypeId) (v : Value) (z j : Nat) (xs : List Value), T' ≠ 3 → T' ≠ 47 → w.ownsRow B T' z v j xs → w'.ownsRow B T' z v j xs := fun T' v z j xs h1 h2 hr => own_kept hr hk fun k hk' e => by
    obtain ⟨_, _, cur, hc⟩ := own_type hr k hk'
    obtain ⟨cur', t', hc', ht⟩ := typ k e
    have := tag_eq hc hc'
    rcases ht with ht | ht
    · exact h1 (this.trans ht)
    · exact h2 (this.trans ht)
  have item : ∀ (v : Value) (xs : List Int), NewI B w v xs → (∀ k, v.ownBlock = some k → (f n).1.ownBlock ≠ some k) → NewI B w' v xs := fun v xs hr hd => own_kept hr hk fun k hk' e => by
    obtain ⟨_, _, cur, hc⟩ := own_type hr k hk'
    rcases e with e | e | e
    · exact hd k hk' e
    · obtain ⟨_, _, cur', hc'⟩ := own_type h.rp k e; exact absurd (tag_eq hc hc') (by decide)
    · obtain ⟨_, _, cur', hc'⟩ := own_type h.rq k e; exact absurd (tag_eq hc hc') (by decide)
  have hh : w'.heap[W]? = _ := (hk.block W (Array.getElem?_eq_some_iff.1 h.head).1 fun e => by
    obtain ⟨cur', t', hc', ht⟩ := typ W e
    have := tag_eq h.head hc'
    rcases ht with ht | ht
    · exact absurd (this.trans ht) (by decide)
    · exact absurd (this.trans ht) (by decide)).trans h.head
  have ltf : ∀ i k, i < N → (f i).1.ownBlock = some k → k < w.heap.size := fun i k hi hk => (own_type (h.ip i hi) k hk).1
  have ltg : ∀ i k, i < N → (g i).1.ownBlock = some k → k < w.heap.size := fun i k hi hk => (own_type (h.iq i hi) k hk).1
  have Ip : ∀ i, i < N → NewI B w' (at_ f n (v', xs) i).1 (at_ f n (v', xs) i).2 := fun i hi => by
    by_cases e : i = n
    · subst e; rw [at_same]; exact hv
    · rw [at_other e]; exact item _ _ (h.ip i hi) fun k hk e' => e (h.ap i n k hi hn hk e')
  have Iq : ∀ i, i < N → NewI B w' (at_ g n (u, xs) i).1 (at_ g n (u, xs) i).2 := fun i hi => by
    by_cases e : i = n
    · subst e; rw [at_same]; exact hu
    · rw [at_other e]; exact item _ _ (h.iq i hi) fun k hk e' => h.bp n i k hn hi e' hk
  have Sp : ∀ i, i < N → (at_ f n (v', xs) i).2 = (at_ g n (u, xs) i).2 := fun i hi => by
    by_cases e : i = n
    · subst e; rw [at_same, at_same]
    · rw [at_other e, at_other e]; exact h.sp i hi
  have Ap : ∀ i j k, i < N → j < N → (at_ f n (v', xs) i).1.ownBlock = some k → (at_ f n (v', xs) j).1.ownBlock = some k → i = j := fun i j k hi hj h1 h2 => by
    by_cases e1 : i = n <;> by_cases e2 : j = n
    · omega
    · rw [e1, at_same] at h1; rw [at_other e2] at h2
      rcases fv k h1 with h1 | h1
      · exact e1.trans (h.ap n j k hn hj h1 h2)
      · have := ltf j k hj h2; omega
    · rw [e2, at_same] at h2; rw [at_other e1] at h1
      rcases fv k h2 with h2 | h2
      · exact (h.ap i n k hi hn h1 h2).trans e2.symm
      · have := ltf i k hi h1; omega
    · rw [at_other e1] at h1; rw [at_other e2] at h2; exact h.ap i j k hi hj h1 h2
  have Bp : ∀ i j k, i < N → j < N → (at_ f n (v', xs) i).1.ownBlock = some k → (at_ g n (u, xs) j).1.ownBlock ≠ some k := fun i j k hi hj h1 h2 => by
    by_cases e1 : i = n <;> by_cases e2 : j = n
    · rw [e1, at_same] at h1; rw [e2, at_same] at h2; exact fuv k h1 h2
    · rw [e1, at_same] at h1; rw [at_other e2] at h2
      rcases fv k h1 with h1 | h1
      · exact h.bp n j k hn hj h1 h2
      · have := ltg j k hj h2; omega
    · rw [at_other e1] at h1; rw [e2, at_same] at h2
      have := ltf i k hi h1; have := fu k h2; omega
    · rw [at_other e1] at h1; rw [at_other e2] at h2; exact h.bp i j k hi hj h1 h2
  exact ⟨hh, hp, hq, no _ _ _ _ _ (by decide) (by decide) h.rx, no _ _ _ _ _ (by decide) (by decide) h.ry, h.dp, h.dx, Ip, Iq, fun i hi => no _ _ _ _ _ (by decide) (by decide) (h.ix i hi), fun i hi => no _ _ _ _ _ (by decide) (by decide) (h.iy i hi), Sp, h.sx, Ap, Bp, h.ax, h.bx, Nat.le_trans h.hB hk.size⟩
theorem En.turn_x {v' u : Value} {xs : List Lf} {n : Nat} (h : En B w W vl vr vp vq vx vy c N M f g s t) (hn : n < M) (hk : Kept (fun k => (s n).1.ownBlock = some k ∨ vx.ownBlock = some k ∨ vy.ownBlock = some k) w w') (hp : w'.ownsRow B 39 1 vx M (pl M (at_ s n (v', xs)))) (hq : w'.ownsRow B 39 1 vy M (pl M (at_ t n (u, xs)))) (hv : NewL B w' v' xs) (hu : NewL B w' u xs)
    (fv : ∀ k, v'.ownBlock = some k → (s n).1.ownBlock = some k ∨ w.heap.size ≤ k) (fu : ∀ k, u.ownBlock = some k → w.heap.size ≤ k) (fuv : ∀ k, v'.ownBlock = some k → u.ownBlock ≠ some k) : En B w' W vl vr vp vq vx vy c N M f g (at_ s n (v', xs)) (at_ t n (u, xs)) := by
  have typ : ∀ k, ((s n).1.ownBlock = some k ∨ vx.ownBlock = some k ∨ vy.ownBlock = some k) → ∃ cur t', w.heap[k]? = some (.cells cur t' (0, 0)) ∧ (t' = 34 ∨ t' = 39) := fun k e => by
    rcases e with e | e | e
    · obtain ⟨_, _, cur, hc⟩ := own_type (h.ix n hn) k e; exact ⟨_, _, hc, .inl rfl⟩
    · obtain ⟨_, _, cur, hc⟩ := own_type h.rx k e; exact ⟨_, _, hc, .inr rfl⟩
    · obtain ⟨_, _, cur, hc⟩ := own_type h.ry k e; exact ⟨_, _, hc, .inr rfl⟩
  have no : ∀ (T' : TypeId) (v : Value) (z j : Nat) (xs : List Value), T' ≠ 34 → T' ≠ 39 → w.ownsRow B T' z v j xs → w'.ownsRow B T' z v j xs := fun T' v z j xs h1 h2 hr => own_kept hr hk fun k hk' e => by
    obtain ⟨_, _, cur, hc⟩ := own_type hr k hk'
    obtain ⟨cur', t', hc', ht⟩ := typ k e
    have := tag_eq hc hc'
    rcases ht with ht | ht
    · exact h1 (this.trans ht)
    · exact h2 (this.trans ht)
  have item : ∀ (v : Value) (xs : List Lf), NewL B w v xs → (∀ k, v.ownBlock = some k → (s n).1.ownBlock ≠ some k) → NewL B w' v xs := fun v xs hr hd => own_kept hr hk fun k hk' e => by
    obtain ⟨_, _, cur, hc⟩ := own_type hr k hk'
    rcases e with e | e | e
    · exact hd k hk' e
    · obtain ⟨_, _, cur', hc'⟩ := own_type h.rx k e; exact absurd (tag_eq hc hc') (by decide)
    · obtain ⟨_, _, cur', hc'⟩ := own_type h.ry k e; exact absurd (tag_eq hc hc') (by decide)
  have hh : w'.heap[W]? = _ := (hk.block W (Array.getElem?_eq_some_iff.1 h.head).1 fun e => by
    obtain ⟨cur', t', hc', ht⟩ := typ W e
    have := tag_eq h.head hc'
    rcases ht with ht | ht
    · exact absurd (this.trans ht) (by decide)
    · exact absurd (this.trans ht) (by decide)).trans h.head
  have ltf : ∀ i k, i < M → (s i).1.ownBlock = some k → k < w.heap.size := fun i k hi hk => (own_type (h.ix i hi) k hk).1
  have ltg : ∀ i k, i < M → (t i).1.ownBlock = some k → k < w.heap.size := fun i k hi hk => (own_type (h.iy i hi) k hk).1
  have Ix : ∀ i, i < M → NewL B w' (at_ s n (v', xs) i).1 (at_ s n (v', xs) i).2 := fun i hi => by
    by_cases e : i = n
    · subst e; rw [at_same]; exact hv
    · rw [at_other e]; exact item _ _ (h.ix i hi) fun k hk e' => e (h.ax i n k hi hn hk e')
  have Iy : ∀ i, i < M → NewL B w' (at_ t n (u, xs) i).1 (at_ t n (u, xs) i).2 := fun i hi => by
    by_cases e : i = n
    · subst e; rw [at_same]; exact hu
    · rw [at_other e]; exact item _ _ (h.iy i hi) fun k hk e' => h.bx n i k hn hi e' hk
  have Sx : ∀ i, i < M → (at_ s n (v', xs) i).2 = (at_ t n (u, xs) i).2 := fun i hi => by
    by_cases e : i = n
    · subst e; rw [at_same, at_same]
    · rw [at_other e, at_other e]; exact h.sx i hi
  have Ax : ∀ i j k, i < M → j < M → (at_ s n (v', xs) i).1.ownBlock = some k → (at_ s n (v', xs) j).1.ownBlock = some k → i = j := fun i j k hi hj h1 h2 => by
    by_cases e1 : i = n <;> by_cases e2 : j = n
    · omega
    · rw [e1, at_same] at h1; rw [at_other e2] at h2
      rcases fv k h1 with h1 | h1
      · exact e1.trans (h.ax n j k hn hj h1 h2)
      · have := ltf j k hj h2; omega
    · rw [e2, at_same] at h2; rw [at_other e1] at h1
      rcases fv k h2 with h2 | h2
      · exact (h.ax i n k hi hn h1 h2).trans e2.symm
      · have := ltf i k hi h1; omega
    · rw [at_other e1] at h1; rw [at_other e2] at h2; exact h.ax i j k hi hj h1 h2
  have Bx : ∀ i j k, i < M → j < M → (at_ s n (v', xs) i).1.ownBlock = some k → (at_ t n (u, xs) j).1.ownBlock ≠ some k := fun i j k hi hj h1 h2 => by
    by_cases e1 : i = n <;> by_cases e2 : j = n
    · rw [e1, at_same] at h1; rw [e2, at_same] at h2; exact fuv k h1 h2
    · rw [e1, at_same] at h1; rw [at_other e2] at h2
      rcases fv k h1 with h1 | h1
      · exact h.bx n j k hn hj h1 h2
      · have := ltg j k hj h2; omega
    · rw [at_other e1] at h1; rw [e2, at_same] at h2
      have := ltf i k hi h1; have := fu k h2; omega
    · rw [at_other e1] at h1; rw [at_other e2] at h2; exact h.bx i j k hi hj h1 h2
  exact ⟨hh, no _ _ _ _ _ (by decide) (by decide) h.rp, no _ _ _ _ _ (by decide) (by decide) h.rq, hp, hq, h.dp, h.dx, fun i hi => no _ _ _ _ _ (by decide) (by decide) (h.ip i hi), fun i hi => no _ _ _ _ _ (by decide) (by decide) (h.iq i hi), Ix, Iy, h.sp, Sx, h.ap, h.bp, Ax, Bx, Nat.le_trans h.hB hk.size⟩
theorem En.same_p {n : Nat} (h : En B w W vl vr vp vq vx vy c N M f g s t) (hn : n < N) (hl : (f n).2.length ≤ 140737488355328) : Calls Try.prog 19 #[(f n).1, (g n).1] w fun e w' => e = .returned (.bool true) ∧ ∃ p, w' = w.drewN p := by
  have := sameInts_any (RowAt.own (h.ip n hn)) (RowAt.own (h.iq n hn)) hl
  rw [show decide ((f n).2 = (g n).2) = true by simp [h.sp n hn]] at this
  exact this
theorem En.same_x {n : Nat} (h : En B w W vl vr vp vq vx vy c N M f g s t) (hn : n < M) (hl : (s n).2.length ≤ 140737488355328) : Calls Try.prog 13 #[(s n).1, (t n).1] w fun e w' => e = .returned (.bool true) ∧ ∃ p, w' = w.drewN p := by
  have := sameLives_any (RowAt.own (h.ix n hn)) (RowAt.own (h.iy n hn)) hl
  rw [show decide ((s n).2 = (t n).2) = true by simp [h.sx n hn]] at this
  exact this
end
theorem row_at {B n i : Nat} {w : World} {T : TypeId} {v u : Value} {xs : List Value} (h : w.ownsRow B T 1 v n xs) (hi : xs[i]? = some u) : ∃ g c cur, v = .slice (some ⟨g, 0, none⟩) n c ∧ w.cell? ⟨g, i, none⟩ = some u ∧ w.heap[g]? = some (.cells cur T (0, 0)) ∧ B ≤ g := by
  rcases own_row h with ⟨_, h0⟩ | ⟨g, c, e, _, _, hc⟩
  · have := (List.getElem?_eq_some_iff.1 hi).1
    have := h.1
    omega
  · subst e
    obtain ⟨_, hb, cur, hcur⟩ := own_type h g rfl
    exact ⟨g, c, cur, rfl, hc i u hi, hcur, hb⟩
/-- Out of the World. -/
theorem Wst.en {B m : Nat} {w : World} {W : Nat} {cs rs : Nat → Nat} {va vb : Nat → Value} {LA LB : Nat → List Lf} {P Q : List (Value × List Int)} {X Y : List (Value × List Lf)} (h : Wst B m w W cs rs va vb LA LB P Q X Y) (hp : P.map (·.2) = Q.map (·.2)) (hx : X.map (·.2) = Y.map (·.2)) :
    ∃ vl vr vp vq vx vy c, En B w W vl vr vp vq vx vy c P.length X.length (fun i => P[i]?.getD (.slice none 0 0, [])) (fun i => Q[i]?.getD (.slice none 0 0, [])) (fun i => X[i]?.getD (.slice none 0 0, [])) (fun i => Y[i]?.getD (.slice none 0 0, [])) := by
  obtain ⟨vl, vr, vp, vq, vx, vy, n, hR, hC⟩ := h
  have hpl : Q.length = P.length := by have := congrArg List.length hp; simpa using this.symm
  have hxl : Y.length = X.length := by have := congrArg List.length hx; simpa using this.symm
  have lst : ∀ {α : Type} (l : List (Value × α)) (d : Value × α), pl l.length (fun i => l[i]?.getD d) = l.map (·.1) := fun l d => by
    apply List.ext_getElem?
    intro j
    unfold pl
    rw [List.getElem?_map, List.getElem?_map]
    by_cases hj : j < l.length
    · simp [hj]
    · simp [hj]
  have mem : ∀ {α : Type} (l : List (Value × α)) (d : Value × α) (i : Nat), i < l.length → l[i]?.getD d ∈ l := fun l d i hi => by
    rw [List.getElem?_eq_getElem hi]; exact List.getElem_mem hi
  have sm : ∀ {α : Type} (l m : List (Value × α)) (d : Value × α), l.map (·.2) = m.map (·.2) → m.length = l.length → ∀ i, i < l.length → (l[i]?.getD d).2 = (m[i]?.getD d).2 := fun l m d e el i hi => by
    have := congrArg (fun x => x[i]?) e
    simp only [List.getElem?_map] at this
    rw [List.getElem?_eq_getElem hi, List.getElem?_eq_getElem (by omega)] at this ⊢
    simpa using this
  have ap : ∀ {α : Type} (l : List (Value × α)) (d : Value × α), (l.Pairwise fun p q => ∀ k, p.1.ownBlock = some k → q.1.ownBlock ≠ some k) → ∀ i j k, i < l.length → j < l.length → (l[i]?.getD d).1.ownBlock = some k → (l[j]?.getD d).1.ownBlock = some k → i = j := fun l d hl i j k hi hj h1 h2 => by
    rw [List.getElem?_eq_getElem hi] at h1
    rw [List.getElem?_eq_getElem hj] at h2
    rw [List.pairwise_iff_getElem] at hl
    rcases Nat.lt_trichotomy i j with e | e | e
    · exact absurd h2 (hl i j hi hj e k h1)
    · exact e
    · exact absurd h1 (hl j i hj hi e k h2)
  have r2 := hR.rq
  have r4 := hR.ry
  refine ⟨vl, vr, vp, vq, vx, vy, n, hR.head, ?_, ?_, ?_, ?_, hR.dp, hR.dx, fun i hi => hC.oP _ (mem P _ i hi), fun i hi => hC.oQ _ (mem Q _ i (by omega)), fun i hi => hC.oX _ (mem X _ i hi), fun i hi => hC.oY _ (mem Y _ i (by omega)), sm P Q _ hp hpl, sm X Y _ hx hxl, ap P _ hC.aP, fun i j k hi hj => hC.aPQ _ (mem P _ i hi) _ (mem Q _ j (by omega)) k, ap X _ hC.aX, fun i j k hi hj => hC.aXY _ (mem X _ i hi) _ (mem Y _ j (by omega)) k, hC.hB⟩
  · rw [lst]; have := hR.rp; rw [List.length_map] at this; exact this
  · rw [← hpl, lst]; have := hR.rq; rw [List.length_map] at this; exact this
  · rw [lst]; have := hR.rx; rw [List.length_map] at this; exact this
  · rw [← hxl, lst]; have := hR.ry; rw [List.length_map] at this; exact this
end Go.Proofs.Ytcfmcakdgamdmaa
