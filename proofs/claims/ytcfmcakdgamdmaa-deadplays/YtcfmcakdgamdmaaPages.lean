/- pages, lives: lists that came out. -/
import Derived.Test.YtcfmcakdgamdmaaWd
namespace Go.Proofs.Ytcfmcakdgamdmaa
open Go.RowKit

/-- All memory but the World's, its rows', its lists' and lives' stays. -/
structure Stay (w w' : World) : Prop where
  is : ∀ (k : Nat) (cur : Array Value) (t : TypeId) z, t ≠ 30 → t ≠ 40 → t ≠ 58 → t ≠ 47 → t ≠ 39 → t ≠ 63 → t ≠ 73 → t ≠ 34 → w.heap[k]? = some (.cells cur t z) → w'.heap[k]? = some (.cells cur t z)
  size : w.heap.size ≤ w'.heap.size
theorem Stay.refl (w : World) : Stay w w := ⟨fun _ _ _ _ _ _ _ _ _ _ _ _ h => h, Nat.le_refl _⟩
theorem Stay.trans {a b c : World} (h : Stay a b) (k : Stay b c) : Stay a c := ⟨fun i cur t z h1 h2 h3 h4 h5 h6 h7 h8 hi => k.is i cur t z h1 h2 h3 h4 h5 h6 h7 h8 (h.is i cur t z h1 h2 h3 h4 h5 h6 h7 h8 hi), Nat.le_trans h.size k.size⟩
theorem Stay.of {S : Nat → Prop} {w w' : World} (hk : Kept S w w') (hS : ∀ k, S k → k < w.heap.size → ∃ cur t, w.heap[k]? = some (.cells cur t (0, 0)) ∧ (t = 30 ∨ t = 40 ∨ t = 58 ∨ t = 47 ∨ t = 39 ∨ t = 63 ∨ t = 73 ∨ t = 34)) : Stay w w' :=
  ⟨fun k cur t z h1 h2 h3 h4 h5 h6 h7 h8 hc => by
    rw [hk.block k (Array.getElem?_eq_some_iff.1 hc).1 (fun e => by
      obtain ⟨cur', t', hc', ht⟩ := hS k e (Array.getElem?_eq_some_iff.1 hc).1
      have := tag_eq hc hc'
      subst this
      rcases ht with e | e | e | e | e | e | e | e
      · exact h1 e
      · exact h2 e
      · exact h3 e
      · exact h4 e
      · exact h5 e
      · exact h6 e
      · exact h7 e
      · exact h8 e)]
    exact hc, hk.size⟩
theorem Stay.below {w w' : World} (h : Below w.heap.size w w') : Stay w w' := Stay.of (S := fun _ => False) (Kept.of_below h) (fun _ h => h.elim)
theorem own_stay {w w' : World} {base e n k : Nat} {v : Value} {xs : List Value} (ho : w.ownsRow base e k v n xs) (hs : Stay w w') (h1 : e ≠ 30) (h2 : e ≠ 40) (h3 : e ≠ 58) (h4 : e ≠ 47) (h5 : e ≠ 39) (h6 : e ≠ 63) (h7 : e ≠ 73) (h8 : e ≠ 34) : w'.ownsRow base e k v n xs := by
  obtain ⟨hl, h⟩ := ho
  refine ⟨hl, ?_⟩
  rcases h with h | ⟨g, cap, cur, rfl, hb, hg, hc⟩
  · exact .inl h
  · exact .inr ⟨g, cap, cur, rfl, hb, hs.is g cur e _ h1 h2 h3 h4 h5 h6 h7 h8 hg, hc⟩
/-- All that the World keeps. -/
structure Wst (B m : Nat) (w : World) (W : Nat) (cs rs : Nat → Nat) (va vb : Nat → Value) (LA LB : Nat → List Lf) (P Q : List (Value × List Int)) (X Y : List (Value × List Lf)) : Prop where
  is : ∃ vl vr vp vq vx vy n, Rows B w W vl vr vp vq vx vy n (ptrs m cs) (ptrs m rs) (P.map (·.1)) (Q.map (·.1)) (X.map (·.1)) (Y.map (·.1)) ∧ Core B m w cs rs va vb LA LB P Q X Y
section
variable {B m : Nat} {w w' : World} {W : Nat} {cs rs : Nat → Nat} {va vb : Nat → Value} {LA LB : Nat → List Lf} {P Q : List (Value × List Int)} {X Y : List (Value × List Lf)}
theorem Wst.below (h : Wst B m w W cs rs va vb LA LB P Q X Y) (hb : Below w.heap.size w w') : Wst B m w' W cs rs va vb LA LB P Q X Y := by
  obtain ⟨vl, vr, vp, vq, vx, vy, n, h1, h2⟩ := h
  exact ⟨vl, vr, vp, vq, vx, vy, n, h1.below hb, h2.below hb⟩
theorem Wst.hB (h : Wst B m w W cs rs va vb LA LB P Q X Y) : B ≤ w.heap.size := by
  obtain ⟨vl, vr, vp, vq, vx, vy, n, h1, h2⟩ := h
  exact h2.hB
theorem Wst.core (h : Wst B m w W cs rs va vb LA LB P Q X Y) : Core B m w cs rs va vb LA LB P Q X Y := by
  obtain ⟨vl, vr, vp, vq, vx, vy, n, h1, h2⟩ := h
  exact h2
end
theorem infoS : ∃ i, Try.prog.info? 47 = some i ∧ i.zero = some (.slice none 0 0) ∧ i.size = 1 ∧ i.bytes = 24 := by
  have h : (Try.prog.info? 47).map (fun i => (i.zero, i.size, i.bytes)) = some (some (.slice none 0 0), 1, 24) := by kernel_rfl
  cases hi : Try.prog.info? 47 with
  | none => rw [hi] at h; simp at h
  | some i => rw [hi] at h; simp at h; exact ⟨i, rfl, h⟩
theorem infoT : ∃ i, Try.prog.info? 39 = some i ∧ i.zero = some (.slice none 0 0) ∧ i.size = 1 ∧ i.bytes = 24 := by
  have h : (Try.prog.info? 39).map (fun i => (i.zero, i.size, i.bytes)) = some (some (.slice none 0 0), 1, 24) := by kernel_rfl
  cases hi : Try.prog.info? 39 with
  | none => rw [hi] at h; simp at h
  | some i => rw [hi] at h; simp at h; exact ⟨i, rfl, h⟩
theorem new_cell {w : World} {x : Value} {T : TypeId} : ∀ (j : Nat) (u : Value), [x][j]? = some u → (w.alloc (.cells #[x] T)).cell? ((⟨w.heap.size, 0, none⟩ : Addr).add j) = some u := fun j u hj => by
  rw [add_at, row_cell (heap_alloc_last w _), Nat.zero_add, ← Array.getElem?_toList]
  exact hj
set_option maxHeartbeats 3200000 in
set_option maxRecDepth 100000 in
theorem rows_pages_any {B : Nat} {w : World} {W : Nat} {vl vr vp vq vx vy a b : Value} {n : Int} {xl xr xp xq xx xy : List Value} {xs : List Int} (hR : Rows B w W vl vr vp vq vx vy n xl xr xp xq xx xy) (hB : B ≤ w.heap.size) (ha : NewI B w a xs) (hb : NewI B w b xs) (h1 : xp.length ≤ 4398046511104) (h2 : xq.length ≤ 4398046511104) (h3 : xs.length ≤ 5864062014805) :
    Calls Try.prog 25 #[ptr W, a, b] w fun r w' => r = .returned (.bool true) ∧ (∃ vp' vq' n', Rows B w' W vl vr vp' vq' vx vy n' xl xr (xp ++ [a]) (xq ++ [b]) xx xy) ∧ Kept (fun k => k = W ∨ vp.ownBlock = some k ∨ vq.ownBlock = some k) w w' := by
  obtain ⟨i0, hi, hz0, hz1, hz2⟩ := infoS
  obtain ⟨a1, c1, rfl⟩ := own_slice ha
  obtain ⟨a2, c2, rfl⟩ := own_slice hb
  obtain ⟨ap, cp, rfl⟩ := own_slice hR.rp
  obtain ⟨aq, cq, rfl⟩ := own_slice hR.rq
  have HR : Hid (Rows B w W vl vr (.slice ap xp.length cp) (.slice aq xq.length cq) vx vy n xl xr xp xq xx xy) := hR
  have HA : Hid (NewI B w (.slice a1 xs.length c1) xs) := ha
  have HB : Hid (NewI B w (.slice a2 xs.length c2) xs) := hb
  have HLN : Hid (xp.length ≤ 4398046511104 ∧ xq.length ≤ 4398046511104 ∧ xs.length ≤ 5864062014805) := ⟨h1, h2, h3⟩
  have HBB : Hid (B ≤ w.heap.size) := hB
  have HPV : Hid ((w.alloc (.cells #[.slice a1 xs.length c1] 47)).ownsRow B 47 1 (.slice ap xp.length cp) xp.length xp) := own_here hR.rp (below_new _ _)
  have d0 : w.cell? ⟨W, 2, none⟩ = some (.slice ap xp.length cp) := by rw [row_cell hR.head]; rfl
  clear hR ha hb h1 h2 h3 hB
  go_enter Try.func25, Try.ntmps25
  go_upto_region 2 with (
    at_builtin
    refine wpList_append_lies _ rfl _ _ 27 rfl B 47 i0 _ 1 24 Try.underlying27 hi hz0 hz1 hz2 rfl (by decide) (.slice ap xp.length cp) xp.length xp rfl HPV.out ⟨w.heap.size, 0, none⟩ 1 1 [.slice a1 xs.length c1] rfl rfl new_cell (fun u hu => by simp at hu; subst hu; rfl) (by decide) (by have := HLN.out.1; unfold maxLen; omega) (by have := HLN.out.1; omega) (Nat.le_trans HBB.out (below_new w _).size) _ rfl ?_
    intro g1 k1 w1 ho hg hat hlt
    obtain ⟨q0, q1, q2⟩ := HR.out.push_p ho hg hat
    have e0 : w1.cell? ⟨W, 2, none⟩ = some (.slice ap xp.length cp) := by rw [row_cell q0]; rfl
    have e1 : w1.frozen? ⟨W, 2, none⟩ = false := row_frozen q0 _
    have HQ1 : Hid _ := (⟨q1, q2⟩ : _ ∧ _)
    clear ho hg hat hlt q0 q1 q2)
  generalize w1.setCell ⟨W, 2, none⟩ (.slice (some ⟨g1, 0, none⟩) (xp.length + 1) k1) = w2 at *
  clear d0 e0 e1
  have d1 : w2.cell? ⟨W, 3, none⟩ = some (.slice aq xq.length cq) := by rw [row_cell HQ1.out.1.head]; rfl
  have HQV : Hid ((w2.alloc (.cells #[.slice a2 xs.length c2] 47)).ownsRow B 47 1 (.slice aq xq.length cq) xq.length xq) := own_here HQ1.out.1.rq (below_new _ _)
  have HBB2 : Hid (B ≤ w2.heap.size) := Nat.le_trans HBB.out HQ1.out.2.size
  go_upto_region 3 with (
    at_builtin
    refine wpList_append_lies _ rfl _ _ 27 rfl B 47 i0 _ 1 24 Try.underlying27 hi hz0 hz1 hz2 rfl (by decide) (.slice aq xq.length cq) xq.length xq rfl HQV.out ⟨w2.heap.size, 0, none⟩ 1 1 [.slice a2 xs.length c2] rfl rfl new_cell (fun u hu => by simp at hu; subst hu; rfl) (by decide) (by have := HLN.out.2.1; unfold maxLen; omega) (by have := HLN.out.2.1; omega) (Nat.le_trans HBB2.out (below_new w2 _).size) _ rfl ?_
    intro g2 k2 w3 ho hg hat hlt
    obtain ⟨q0, q1, q2⟩ := HQ1.out.1.push_q ho hg hat
    have e0 : w3.cell? ⟨W, 3, none⟩ = some (.slice aq xq.length cq) := by rw [row_cell q0]; rfl
    have e1 : w3.frozen? ⟨W, 3, none⟩ = false := row_frozen q0 _
    have HQ2 : Hid _ := (⟨q1, q2⟩ : _ ∧ _)
    clear ho hg hat hlt q0 q1 q2)
  generalize w3.setCell ⟨W, 3, none⟩ (.slice (some ⟨g2, 0, none⟩) (xq.length + 1) k2) = w4 at *
  clear d1 e0 e1
  have d6 : w4.cell? ⟨W, 6, none⟩ = some (.int .i64 n) := by rw [row_cell HQ2.out.1.head]; rfl
  have f6 : w4.frozen? ⟨W, 6, none⟩ = false := row_frozen HQ2.out.1.head _
  have hlz : (xs.length : Int) ≤ 5864062014805 := by have := HLN.out.2.2; omega
  have HK4 : Hid (Kept (fun k => k = W ∨ (Value.slice ap xp.length cp).ownBlock = some k ∨ (Value.slice aq xq.length cq).ownBlock = some k) w w4) := (HQ1.out.2.mono fun _ _ e => e.imp id .inl).trans HQ2.out.2 (fun _ _ e => e.imp id .inr)
  have HNO : Hid (∀ (v : Value) (L : List Int), NewI B w v L → ∀ k, v.ownBlock = some k → ¬ (k = W ∨ (Value.slice ap xp.length cp).ownBlock = some k ∨ (Value.slice aq xq.length cq).ownBlock = some k)) := fun v L hv k hk e => by
    obtain ⟨_, _, cur, hc⟩ := own_type hv k hk
    rcases e with e | e | e
    · rw [e] at hc; exact absurd (tag_eq hc HR.out.head) (by decide)
    · obtain ⟨_, _, cur', hc'⟩ := own_type HR.out.rp k e; exact absurd (tag_eq hc hc') (by decide)
    · obtain ⟨_, _, cur', hc'⟩ := own_type HR.out.rq k e; exact absurd (tag_eq hc hc') (by decide)
  have HA4 : Hid (NewI B w4 (.slice a1 xs.length c1) xs) := own_kept HA.out HK4.out (HNO.out _ _ HA.out)
  have HB4 : Hid (NewI B w4 (.slice a2 xs.length c2) xs) := own_kept HB.out HK4.out (HNO.out _ _ HB.out)
  have HSM : Hid (∀ z, Calls Try.prog 19 #[.slice a1 xs.length c1, .slice a2 xs.length c2] (w4.setCell ⟨W, 6, none⟩ (.int .i64 z)) fun e w' => e = .returned (.bool true) ∧ Below w4.heap.size (w4.setCell ⟨W, 6, none⟩ (.int .i64 z)) w') := fun z => by
    have hk := setCell_kept (w := w4) (b := W) (i := 6) (.int .i64 z)
    have no : ∀ (v : Value) (L : List Int), NewI B w4 v L → ∀ k, v.ownBlock = some k → ¬ k = W := fun v L hv k hk e => by
      obtain ⟨_, _, cur, hc⟩ := own_type hv k hk
      rw [e] at hc; exact absurd (tag_eq hc HQ2.out.1.head) (by decide)
    have := sameInts_any (RowAt.own (own_kept HA4.out hk (no _ _ HA4.out))) (RowAt.own (own_kept HB4.out hk (no _ _ HB4.out))) (by have := HLN.out.2.2; omega)
    rw [show decide (xs = xs) = true by simp] at this
    refine this.mono ?_
    rintro e w' ⟨rfl, hw⟩
    obtain ⟨q, rfl⟩ := hw
    exact ⟨rfl, below_draws (Below.refl _ _) q⟩
  clear HA HB HPV HQV HA4 HB4
  go_wp2_with fail
  refine Calls.mono (HSM.out _) ?_
  rintro e w6 ⟨rfl, hb6⟩
  have HB6 : Hid _ := hb6
  clear hb6 d6 f6
  go_wp2_with fail
  go_ret
  refine ⟨rfl, ⟨_, _, _, (HQ2.out.1.set_n _).below (by simpa using HB6.out)⟩, (HK4.out.trans (setCell_kept _) (fun _ _ e => .inl e)).trans (Kept.of_below (S := fun _ => False) (by simpa using HB6.out)) (fun _ _ e => e.elim)⟩
theorem law_pages_any {B m : Nat} {w : World} {W : Nat} {cs rs : Nat → Nat} {va vb : Nat → Value} {LA LB : Nat → List Lf} {P Q : List (Value × List Int)} {X Y : List (Value × List Lf)} {a b : Value} {xs : List Int} (h : Wst B m w W cs rs va vb LA LB P Q X Y) (ha : NewI B w a xs) (hb : NewI B w b xs) (fa : ∀ p ∈ P ++ Q, ∀ k, a.ownBlock = some k → p.1.ownBlock ≠ some k) (fb : ∀ p ∈ P, ∀ k, b.ownBlock = some k → p.1.ownBlock ≠ some k) (fab : ∀ k, a.ownBlock = some k → b.ownBlock ≠ some k) (h1 : P.length ≤ 4398046511104) (h2 : Q.length ≤ 4398046511104) (h3 : xs.length ≤ 5864062014805) :
    Calls Try.prog 25 #[ptr W, a, b] w fun r w' => r = .returned (.bool true) ∧ Wst B m w' W cs rs va vb LA LB (P ++ [(a, xs)]) (Q ++ [(b, xs)]) X Y ∧ Stay w w' ∧ Below B w w' := by
  obtain ⟨vl, vr, vp, vq, vx, vy, n, hR, hC⟩ := h
  refine (rows_pages_any hR hC.hB ha hb (by simpa using h1) (by simpa using h2) h3).mono ?_
  rintro r w' ⟨rfl, ⟨vp', vq', n', hR'⟩, hk⟩
  have typ : ∀ k, (k = W ∨ vp.ownBlock = some k ∨ vq.ownBlock = some k) → B ≤ k ∧ ∃ cur t, w.heap[k]? = some (.cells cur t (0, 0)) ∧ (t = 30 ∨ t = 47) := fun k e => by
    rcases e with rfl | e | e
    · exact ⟨hR.low, _, _, hR.head, .inl rfl⟩
    · obtain ⟨_, h0, cur, hc⟩ := own_type hR.rp k e; exact ⟨h0, _, _, hc, .inr rfl⟩
    · obtain ⟨_, h0, cur, hc⟩ := own_type hR.rq k e; exact ⟨h0, _, _, hc, .inr rfl⟩
  refine ⟨rfl, ⟨_, _, _, _, _, _, _, by simp only [List.map_append, List.map_cons, List.map_nil]; exact hR', (hC.more_p ha hb fa fb fab).far hk fun k e _ => ?_⟩, Stay.of hk fun k e _ => ?_, Kept.below (Below.refl _ _) hk hC.hB fun k e => (typ k e).1⟩
  · obtain ⟨_, cur, t, hc, ht⟩ := typ k e
    refine ⟨cur, t, hc, ?_⟩
    rcases ht with rfl | rfl <;> exact ⟨by decide, by decide, by decide, by decide⟩
  · obtain ⟨_, cur, t, hc, ht⟩ := typ k e
    refine ⟨cur, t, hc, ?_⟩
    rcases ht with rfl | rfl
    · exact .inl rfl
    · exact .inr (.inr (.inr (.inl rfl)))
set_option maxHeartbeats 3200000 in
set_option maxRecDepth 100000 in
theorem rows_lives_any {B : Nat} {w : World} {W : Nat} {vl vr vp vq vx vy a b : Value} {n : Int} {xl xr xp xq xx xy : List Value} {xs : List Lf} (hR : Rows B w W vl vr vp vq vx vy n xl xr xp xq xx xy) (hB : B ≤ w.heap.size) (ha : NewL B w a xs) (hb : NewL B w b xs) (h1 : xx.length ≤ 4398046511104) (h2 : xy.length ≤ 4398046511104) (h3 : xs.length ≤ 5864062014805) :
    Calls Try.prog 27 #[ptr W, a, b] w fun r w' => r = .returned (.bool true) ∧ (∃ vp' vq' n', Rows B w' W vl vr vp vq vp' vq' n' xl xr xp xq (xx ++ [a]) (xy ++ [b])) ∧ Kept (fun k => k = W ∨ vx.ownBlock = some k ∨ vy.ownBlock = some k) w w' := by
  obtain ⟨i0, hi, hz0, hz1, hz2⟩ := infoT
  obtain ⟨a1, c1, rfl⟩ := own_slice ha
  obtain ⟨a2, c2, rfl⟩ := own_slice hb
  obtain ⟨ap, cp, rfl⟩ := own_slice hR.rx
  obtain ⟨aq, cq, rfl⟩ := own_slice hR.ry
  have HR : Hid (Rows B w W vl vr vp vq (.slice ap xx.length cp) (.slice aq xy.length cq) n xl xr xp xq xx xy) := hR
  have HA : Hid (NewL B w (.slice a1 xs.length c1) xs) := ha
  have HB : Hid (NewL B w (.slice a2 xs.length c2) xs) := hb
  have HLN : Hid (xx.length ≤ 4398046511104 ∧ xy.length ≤ 4398046511104 ∧ xs.length ≤ 5864062014805) := ⟨h1, h2, h3⟩
  have HBB : Hid (B ≤ w.heap.size) := hB
  have HPV : Hid ((w.alloc (.cells #[.slice a1 xs.length c1] 39)).ownsRow B 39 1 (.slice ap xx.length cp) xx.length xx) := own_here hR.rx (below_new _ _)
  have d0 : w.cell? ⟨W, 4, none⟩ = some (.slice ap xx.length cp) := by rw [row_cell hR.head]; rfl
  clear hR ha hb h1 h2 h3 hB
  go_enter Try.func27, Try.ntmps27
  go_upto_region 2 with (
    at_builtin
    refine wpList_append_lies _ rfl _ _ 28 rfl B 39 i0 _ 1 24 Try.underlying28 hi hz0 hz1 hz2 rfl (by decide) (.slice ap xx.length cp) xx.length xx rfl HPV.out ⟨w.heap.size, 0, none⟩ 1 1 [.slice a1 xs.length c1] rfl rfl new_cell (fun u hu => by simp at hu; subst hu; rfl) (by decide) (by have := HLN.out.1; unfold maxLen; omega) (by have := HLN.out.1; omega) (Nat.le_trans HBB.out (below_new w _).size) _ rfl ?_
    intro g1 k1 w1 ho hg hat hlt
    obtain ⟨q0, q1, q2⟩ := HR.out.push_x ho hg hat
    have e0 : w1.cell? ⟨W, 4, none⟩ = some (.slice ap xx.length cp) := by rw [row_cell q0]; rfl
    have e1 : w1.frozen? ⟨W, 4, none⟩ = false := row_frozen q0 _
    have HQ1 : Hid _ := (⟨q1, q2⟩ : _ ∧ _)
    clear ho hg hat hlt q0 q1 q2)
  generalize w1.setCell ⟨W, 4, none⟩ (.slice (some ⟨g1, 0, none⟩) (xx.length + 1) k1) = w2 at *
  clear d0 e0 e1
  have d1 : w2.cell? ⟨W, 5, none⟩ = some (.slice aq xy.length cq) := by rw [row_cell HQ1.out.1.head]; rfl
  have HQV : Hid ((w2.alloc (.cells #[.slice a2 xs.length c2] 39)).ownsRow B 39 1 (.slice aq xy.length cq) xy.length xy) := own_here HQ1.out.1.ry (below_new _ _)
  have HBB2 : Hid (B ≤ w2.heap.size) := Nat.le_trans HBB.out HQ1.out.2.size
  go_upto_region 3 with (
    at_builtin
    refine wpList_append_lies _ rfl _ _ 28 rfl B 39 i0 _ 1 24 Try.underlying28 hi hz0 hz1 hz2 rfl (by decide) (.slice aq xy.length cq) xy.length xy rfl HQV.out ⟨w2.heap.size, 0, none⟩ 1 1 [.slice a2 xs.length c2] rfl rfl new_cell (fun u hu => by simp at hu; subst hu; rfl) (by decide) (by have := HLN.out.2.1; unfold maxLen; omega) (by have := HLN.out.2.1; omega) (Nat.le_trans HBB2.out (below_new w2 _).size) _ rfl ?_
    intro g2 k2 w3 ho hg hat hlt
    obtain ⟨q0, q1, q2⟩ := HQ1.out.1.push_y ho hg hat
    have e0 : w3.cell? ⟨W, 5, none⟩ = some (.slice aq xy.length cq) := by rw [row_cell q0]; rfl
    have e1 : w3.frozen? ⟨W, 5, none⟩ = false := row_frozen q0 _
    have HQ2 : Hid _ := (⟨q1, q2⟩ : _ ∧ _)
    clear ho hg hat hlt q0 q1 q2)
  generalize w3.setCell ⟨W, 5, none⟩ (.slice (some ⟨g2, 0, none⟩) (xy.length + 1) k2) = w4 at *
  clear d1 e0 e1
  have d6 : w4.cell? ⟨W, 6, none⟩ = some (.int .i64 n) := by rw [row_cell HQ2.out.1.head]; rfl
  have f6 : w4.frozen? ⟨W, 6, none⟩ = false := row_frozen HQ2.out.1.head _
  have hlz : (xs.length : Int) ≤ 5864062014805 := by have := HLN.out.2.2; omega
  have HK4 : Hid (Kept (fun k => k = W ∨ (Value.slice ap xx.length cp).ownBlock = some k ∨ (Value.slice aq xy.length cq).ownBlock = some k) w w4) := (HQ1.out.2.mono fun _ _ e => e.imp id .inl).trans HQ2.out.2 (fun _ _ e => e.imp id .inr)
  have HNO : Hid (∀ (v : Value) (L : List Lf), NewL B w v L → ∀ k, v.ownBlock = some k → ¬ (k = W ∨ (Value.slice ap xx.length cp).ownBlock = some k ∨ (Value.slice aq xy.length cq).ownBlock = some k)) := fun v L hv k hk e => by
    obtain ⟨_, _, cur, hc⟩ := own_type hv k hk
    rcases e with e | e | e
    · rw [e] at hc; exact absurd (tag_eq hc HR.out.head) (by decide)
    · obtain ⟨_, _, cur', hc'⟩ := own_type HR.out.rx k e; exact absurd (tag_eq hc hc') (by decide)
    · obtain ⟨_, _, cur', hc'⟩ := own_type HR.out.ry k e; exact absurd (tag_eq hc hc') (by decide)
  have HA4 : Hid (NewL B w4 (.slice a1 xs.length c1) xs) := own_kept HA.out HK4.out (HNO.out _ _ HA.out)
  have HB4 : Hid (NewL B w4 (.slice a2 xs.length c2) xs) := own_kept HB.out HK4.out (HNO.out _ _ HB.out)
  have HSM : Hid (∀ z, Calls Try.prog 13 #[.slice a1 xs.length c1, .slice a2 xs.length c2] (w4.setCell ⟨W, 6, none⟩ (.int .i64 z)) fun e w' => e = .returned (.bool true) ∧ Below w4.heap.size (w4.setCell ⟨W, 6, none⟩ (.int .i64 z)) w') := fun z => by
    have hk := setCell_kept (w := w4) (b := W) (i := 6) (.int .i64 z)
    have no : ∀ (v : Value) (L : List Lf), NewL B w4 v L → ∀ k, v.ownBlock = some k → ¬ k = W := fun v L hv k hk e => by
      obtain ⟨_, _, cur, hc⟩ := own_type hv k hk
      rw [e] at hc; exact absurd (tag_eq hc HQ2.out.1.head) (by decide)
    have := sameLives_any (RowAt.own (own_kept HA4.out hk (no _ _ HA4.out))) (RowAt.own (own_kept HB4.out hk (no _ _ HB4.out))) (by have := HLN.out.2.2; omega)
    rw [show decide (xs = xs) = true by simp] at this
    refine this.mono ?_
    rintro e w' ⟨rfl, hw⟩
    obtain ⟨q, rfl⟩ := hw
    exact ⟨rfl, below_draws (Below.refl _ _) q⟩
  clear HA HB HPV HQV HA4 HB4
  go_wp2_with fail
  refine Calls.mono (HSM.out _) ?_
  rintro e w6 ⟨rfl, hb6⟩
  have HB6 : Hid _ := hb6
  clear hb6 d6 f6
  go_wp2_with fail
  go_ret
  refine ⟨rfl, ⟨_, _, _, (HQ2.out.1.set_n _).below (by simpa using HB6.out)⟩, (HK4.out.trans (setCell_kept _) (fun _ _ e => .inl e)).trans (Kept.of_below (S := fun _ => False) (by simpa using HB6.out)) (fun _ _ e => e.elim)⟩
theorem law_lives_any {B m : Nat} {w : World} {W : Nat} {cs rs : Nat → Nat} {va vb : Nat → Value} {LA LB : Nat → List Lf} {P Q : List (Value × List Int)} {X Y : List (Value × List Lf)} {a b : Value} {xs : List Lf} (h : Wst B m w W cs rs va vb LA LB P Q X Y) (ha : NewL B w a xs) (hb : NewL B w b xs) (fa : ∀ p ∈ X ++ Y, ∀ k, a.ownBlock = some k → p.1.ownBlock ≠ some k) (fb : ∀ p ∈ X, ∀ k, b.ownBlock = some k → p.1.ownBlock ≠ some k) (fab : ∀ k, a.ownBlock = some k → b.ownBlock ≠ some k) (fv : ∀ i k, i < m → (va i).ownBlock = some k → a.ownBlock ≠ some k ∧ b.ownBlock ≠ some k) (h1 : X.length ≤ 4398046511104) (h2 : Y.length ≤ 4398046511104) (h3 : xs.length ≤ 5864062014805) :
    Calls Try.prog 27 #[ptr W, a, b] w fun r w' => r = .returned (.bool true) ∧ Wst B m w' W cs rs va vb LA LB P Q (X ++ [(a, xs)]) (Y ++ [(b, xs)]) ∧ Stay w w' ∧ Below B w w' := by
  obtain ⟨vl, vr, vp, vq, vx, vy, n, hR, hC⟩ := h
  refine (rows_lives_any hR hC.hB ha hb (by simpa using h1) (by simpa using h2) h3).mono ?_
  rintro r w' ⟨rfl, ⟨vp', vq', n', hR'⟩, hk⟩
  have typ : ∀ k, (k = W ∨ vx.ownBlock = some k ∨ vy.ownBlock = some k) → B ≤ k ∧ ∃ cur t, w.heap[k]? = some (.cells cur t (0, 0)) ∧ (t = 30 ∨ t = 39) := fun k e => by
    rcases e with rfl | e | e
    · exact ⟨hR.low, _, _, hR.head, .inl rfl⟩
    · obtain ⟨_, h0, cur, hc⟩ := own_type hR.rx k e; exact ⟨h0, _, _, hc, .inr rfl⟩
    · obtain ⟨_, h0, cur, hc⟩ := own_type hR.ry k e; exact ⟨h0, _, _, hc, .inr rfl⟩
  refine ⟨rfl, ⟨_, _, _, _, _, _, _, by simp only [List.map_append, List.map_cons, List.map_nil]; exact hR', (hC.more_x ha hb fa fb fab fv).far hk fun k e _ => ?_⟩, Stay.of hk fun k e _ => ?_, Kept.below (Below.refl _ _) hk hC.hB fun k e => (typ k e).1⟩
  · obtain ⟨_, cur, t, hc, ht⟩ := typ k e
    refine ⟨cur, t, hc, ?_⟩
    rcases ht with rfl | rfl <;> exact ⟨by decide, by decide, by decide, by decide⟩
  · obtain ⟨_, cur, t, hc, ht⟩ := typ k e
    refine ⟨cur, t, hc, ?_⟩
    rcases ht with rfl | rfl
    · exact .inl rfl
    · exact .inr (.inr (.inr (.inr (.inl rfl))))
end Go.Proofs.Ytcfmcakdgamdmaa
