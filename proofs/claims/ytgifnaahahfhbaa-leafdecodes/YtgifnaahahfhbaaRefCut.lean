/- The document's Has, Copy, Cut. -/
import Derived.Test.YtgifnaahahfhbaaCut
namespace Go.Proofs.Ytgifnaahahfhbaa
open Go.RowKit

set_option maxHeartbeats 1600000 in
set_option maxRecDepth 100000 in
theorem refHas_any {w : World} {v u : Value} {r : Rg} {k : Key} (h : RangeAt w v r) (hu : KeyAt w u k) :
    Calls Try.prog 53 #[v, u] w fun e w' => e = .returned (.bool (r.has k)) ∧ Below w.heap.size w w' := by
  obtain ⟨v1, v2, rfl, h1, h2⟩ := h.is
  obtain ⟨lo, hi, all⟩ := r
  obtain ⟨a1, c1, rfl⟩ := h1.in.form
  obtain ⟨a2, c2, rfl⟩ := h2.in.form
  simp only [Rg.has] at *
  have HB0 : Hid (Below w.heap.size w (w.alloc (.cells #[.slice a1 lo.length c1, .slice a2 hi.length c2, .bool all] 49))) := below_new _ _
  have e1 := conv_key (h1.here HB0.out)
  have e2 := conv_key (h2.here HB0.out)
  have e3 := conv_key (hu.here HB0.out)
  have s1 := strB_lt k lo
  have s2 := strB_lt k hi
  have HE : Hid ((decide (lo ≤ k) && (all || decide (k < hi))) = (!decide (k < lo) && (all || decide (k < hi)))) := by
    have h3 : decide (lo ≤ k) = !decide (k < lo) := by
      by_cases hh : k < lo
      · have h' : ¬ lo ≤ k := by grind
        rw [decide_eq_false h', decide_eq_true hh]; rfl
      · have h' : lo ≤ k := by grind
        rw [decide_eq_true h', decide_eq_false hh]; rfl
    rw [Hid, h3]
  generalize decide (k < lo) = d1 at s1 HE
  generalize decide (k < hi) = d2 at s2 HE
  generalize strB lo = S1 at *
  generalize strB hi = S2 at *
  generalize strB k = S3 at *
  clear h h1 h2
  cases d1 <;> cases all <;> cases d2
  all_goals
    go_enter Try.func53, Try.ntmps53
    go_wp2_with fail
    go_ret
    exact ⟨ret_bool (by rw [HE.out]; rfl), HB0.out⟩

/-- A key whose bytes lie in blocks of bytes. -/
structure KeyT (w : World) (v : Value) (ks : Key) : Prop where
  is : ∃ a c, v = .slice a ks.length c ∧ ks.length ≤ c ∧ (a = none → c = 0) ∧ ∀ (j : Nat) b, ks[j]? = some b → ∃ g off cur, a = some ⟨g, off, none⟩ ∧ w.heap[g]? = some (.cells cur 5 (0, 0)) ∧ cur[off + j]? = some (.int .u8 (b.toNat : Int))
  short : ks.length ≤ 140737488355328
theorem KeyT.at {w : World} {v : Value} {ks : Key} (h : KeyT w v ks) : KeyAt w v ks := by
  obtain ⟨⟨a, c, h1, h2, h3, h4⟩, h5⟩ := h
  refine ⟨⟨a, c, h1, fun j b hj => ?_, h2, h3⟩, h5⟩
  obtain ⟨g, off, cur, e, hg, hc⟩ := h4 j b hj
  exact ⟨g, off, e, (Array.getElem?_eq_some_iff.1 hg).1, by rw [row_cell hg]; exact hc⟩
theorem KeyT.here {w w' : World} {v : Value} {ks : Key} (h : KeyT w v ks) (hb : Below w.heap.size w w') : KeyT w' v ks := by
  obtain ⟨⟨a, c, h1, h2, h3, h4⟩, h5⟩ := h
  refine ⟨⟨a, c, h1, h2, h3, fun j b hj => ?_⟩, h5⟩
  obtain ⟨g, off, cur, e, hg, hc⟩ := h4 j b hj
  exact ⟨g, off, cur, e, by rw [hb.block g (Array.getElem?_eq_some_iff.1 hg).1]; exact hg, hc⟩
theorem KeyT.keep {T B : Nat} {w w' : World} {v : Value} {ks : Key} (h : KeyT w v ks) (hk : Keep T B w w') (hT : 5 ≠ T) : KeyT w' v ks := by
  obtain ⟨⟨a, c, h1, h2, h3, h4⟩, h5⟩ := h
  refine ⟨⟨a, c, h1, h2, h3, fun j b hj => ?_⟩, h5⟩
  obtain ⟨g, off, cur, e, hg, hc⟩ := h4 j b hj
  exact ⟨g, off, cur, e, hk.typ _ _ _ _ hT hg, hc⟩
theorem KeyT.shape {w : World} {v : Value} {ks : Key} (h : KeyT w v ks) : ∃ a n c, v = .slice a n c := by
  obtain ⟨⟨a, c, h1, _⟩, _⟩ := h; exact ⟨a, _, c, h1⟩
theorem NewKey.t {base : Nat} {w : World} {v : Value} {ks : Key} (h : NewKey base w v ks) : KeyT w v ks := by
  obtain ⟨ho, hs⟩ := h
  obtain ⟨_, h2⟩ := ho
  rcases h2 with ⟨rfl, h0⟩ | ⟨g, cap, cur, rfl, _, hg, hc, _, _, ht⟩
  · have : ks = [] := List.eq_nil_of_length_eq_zero h0
    subst this
    exact ⟨⟨none, 0, rfl, Nat.le_refl _, fun _ => rfl, fun j b hj => by simp at hj⟩, by decide⟩
  · refine ⟨⟨_, cap, rfl, hc, fun e => (by cases e), fun j b hj => ⟨g, 0, cur, rfl, hg, ?_⟩⟩, hs⟩
    have hl := (List.getElem?_eq_some_iff.1 hj).1
    have : (cur.toList.take (ks.length * 1))[j]? = some (encB b) := by rw [ht, List.getElem?_map, hj]; rfl
    rw [List.getElem?_take, if_pos (by omega), Array.getElem?_toList] at this
    rw [Nat.zero_add]; exact this
theorem KeyT.grown {w w' : World} {v : Value} {ks : Key} {g7 : Nat} {t : TypeId} {z : Nat × Nat} (h : KeyT w v ks) (hg : w.grownBy w' (some g7)) (h7 : w.heap[g7]? = some (.cells #[] t z)) : KeyT w' v ks := by
  obtain ⟨⟨a, c, h1, h2, h3, h4⟩, h5⟩ := h
  refine ⟨⟨a, c, h1, h2, h3, fun j b hj => ?_⟩, h5⟩
  obtain ⟨g, off, cur, e, hgg, hc⟩ := h4 j b hj
  obtain ⟨_, _, _, _, hbl⟩ := hg
  refine ⟨g, off, cur, e, ?_, hc⟩
  rw [hbl g (Array.getElem?_eq_some_iff.1 hgg).1]
  · exact hgg
  · intro e2
    cases e2
    rw [hgg] at h7
    cases h7
    simp at hc
/-- An entry whose bytes lie in blocks of bytes. -/
structure NewPair (w : World) (y : It) : Prop where
  k : KeyT w y.v1 y.e.k
  v : KeyT w y.v2 y.e.v
theorem NewPair.here {w w' : World} {y : It} (h : NewPair w y) (hb : Below w.heap.size w w') : NewPair w' y := ⟨h.k.here hb, h.v.here hb⟩
theorem NewPair.keep {T B : Nat} {w w' : World} {y : It} (h : NewPair w y) (hk : Keep T B w w') (hT : 5 ≠ T) : NewPair w' y := ⟨h.k.keep hk hT, h.v.keep hk hT⟩
theorem NewPair.ok {w : World} {y : It} (h : NewPair w y) : y.Ok w.heap.size w := ⟨h.k.at.in, h.v.at.in⟩
/-- A list of such entries. -/
structure OutList (base : Nat) (w : World) (v : Value) (F : List It) : Prop where
  own : w.ownsRow base 47 2 v F.length (flat F)
  ents : ∀ e ∈ F, NewPair w e
theorem OutList.nil (base : Nat) (w : World) : OutList base w (.slice none 0 0) [] := ⟨World.ownsRow_nil _ _ _ _, fun e he => by simp at he⟩
theorem OutList.here {base : Nat} {w w' : World} {v : Value} {F : List It} (h : OutList base w v F) (hb : Below w.heap.size w w') : OutList base w' v F :=
  ⟨own_same h.own fun b _ hl => hb.block b hl, fun e he => (h.ents e he).here hb⟩
theorem OutList.list {base : Nat} {w : World} {v : Value} {F : List It} (h : OutList base w v F) (hs : F.length * 48 ≤ 140737488355328) : ListAt w.heap.size w v F := by
  refine ⟨?_, hs, fun e he => (h.ents e he).ok⟩
  rcases own_row h.own with ⟨rfl, rfl⟩ | ⟨g, c, rfl, _, hc, _, hr⟩
  · exact ⟨none, 0, rfl, Nat.le_refl _, fun _ => rfl, fun j u hj => by simp [flat] at hj⟩
  · refine ⟨_, c, rfl, hc, fun h => (by cases h), fun j u hj => ⟨g, 0, rfl, hr.lt, ?_⟩⟩
    obtain ⟨cur, h1, _, h3⟩ := hr.is
    have hl := (List.getElem?_eq_some_iff.1 hj).1
    rw [flat_length] at hl
    rw [Nat.zero_add, row_cell h1, ← hj, ← h3, List.getElem?_take, if_pos hl, Array.getElem?_toList]
theorem OutList.shape {base : Nat} {w : World} {v : Value} {F : List It} (h : OutList base w v F) : ∃ a n c, v = .slice a n c := by
  rcases own_row h.own with ⟨rfl, _⟩ | ⟨g, c, rfl, _⟩
  · exact ⟨_, _, _, rfl⟩
  · exact ⟨_, _, _, rfl⟩
theorem OutList.push {base : Nat} {w w' : World} {v v' : Value} {F : List It} {y : It} (h : OutList base w v F) (hy : NewPair w y) (hown : w'.ownsRow base 47 2 v' (F ++ [y]).length (flat (F ++ [y]))) (hk : Keep 47 base w w') : OutList base w' v' (F ++ [y]) := by
  refine ⟨hown, fun e he => ?_⟩
  rcases List.mem_append.1 he with h' | h'
  · exact (h.ents e h').keep hk (by decide)
  · simp at h'; rw [h']; exact hy.keep hk (by decide)
theorem newE {base g : Nat} {w : World} (h : w.heap[g]? = some (.cells #[] 5 (0, 0))) (hb : base ≤ g) : NewKey base w (.slice (some ⟨g, 0, none⟩) 0 0) [] :=
  ⟨⟨rfl, .inr ⟨g, 0, #[], rfl, hb, h, Nat.le_refl _, Nat.zero_le _, rfl, rfl⟩⟩, by decide⟩
theorem below_e1 (W : World) (o : Obj) : Below W.heap.size W (W.drew.alloc o) := ((Below.refl _ _).drew).alloc (Nat.le_refl _) _
theorem below_e2 (W : World) (o o' : Obj) : Below W.heap.size W ((W.drew.alloc o).alloc o') := (below_e1 W o).alloc (by simp) _
theorem row_e1 (W : World) (o : Obj) : (W.drew.alloc o).heap[W.heap.size]? = some o := heap_alloc_last W.drew o
theorem row_e2 (W : World) (o o' : Obj) : ((W.drew.alloc o).alloc o').heap[W.heap.size]? = some o := by rw [Below.heap_alloc _ _ _ (by simp)]; exact row_e1 W o
theorem row_e3 (W : World) (o o' : Obj) : ((W.drew.alloc o).alloc o').heap[W.heap.size + 1]? = some o' := by
  have := heap_alloc_last (W.drew.alloc o) o'
  simpa using this

set_option maxHeartbeats 1600000 in
set_option maxRecDepth 100000 in
theorem refCopy_any {w : World} {v : Value} {e : En} (h : EntAt w v e) :
    Calls Try.prog 54 #[v] w fun r w' => ∃ y : It, r = .returned (.agg #[y.v1, y.v2]) ∧ y.e = e ∧ NewPair w' y ∧ Below w.heap.size w w' := by
  obtain ⟨v1, v2, rfl, h1, h2⟩ := h.is
  obtain ⟨a1, c1, rfl⟩ := h1.in.form
  obtain ⟨a2, c2, rfl⟩ := h2.in.form
  obtain ⟨W, hW⟩ : ∃ W, W = (w.alloc (.cells #[.slice a1 e.k.length c1, .slice a2 e.v.length c2] 47)).alloc (.cells #[.slice none 0 0, .slice none 0 0] 47) := ⟨_, rfl⟩
  have HBW : Hid (Below w.heap.size w W) := by rw [hW]; exact (below_new w _).alloc (by simp) _
  have HX0 : Hid (EBox W w.heap.size (.slice a1 e.k.length c1) (.slice a2 e.v.length c2)) := by rw [hW]; exact (EBox.new _ _ _).here (below_new _ _)
  have HX1 : Hid (EBox W (w.heap.size + 1) (.slice none 0 0) (.slice none 0 0)) := by
    rw [hW]
    have := EBox.new (w.alloc (.cells #[.slice a1 e.k.length c1, .slice a2 e.v.length c2] 47)) (.slice none 0 0) (.slice none 0 0)
    show EBox _ _ _ _
    simpa using this
  have HK1 : Hid (KeyAt W (.slice a1 e.k.length c1) e.k) := h1.here HBW.out
  have HK2 : Hid (KeyAt W (.slice a2 e.v.length c2) e.v) := h2.here HBW.out
  have hs1 := h1.short
  have hs2 := h2.short
  have hwW := HBW.out.size
  clear h h1 h2
  go_enter Try.func54, Try.ntmps54
  go_wp2_with fail
  rw [← hW]
  clear hW
  obtain ⟨k0, k1⟩ := HX0.out.cells
  go_region_held_law (fun W' => W'.cell? ⟨w.heap.size, 0, none⟩ = some (.slice a1 e.k.length c1) ∧ W'.cell? ⟨w.heap.size, 1, none⟩ = some (.slice a2 e.v.length c2)) (first | go_keep | (refine ⟨?_, ?_⟩ <;> assumption))
    (first
      | (refine step_append_key (by rfl) _ _ (by rfl) W.heap.size _ (.slice a1 e.k.length c1) [] e.k (by rfl) (by first | exact newE (row_e1 W _) (Nat.le_refl _) | exact newE (row_e2 W _ _) (Nat.le_refl _) | exact newE (row_e3 W _ _) (Nat.le_succ _)) (by rfl) (by first | exact HK1.out.here (below_e1 W _) | exact HK1.out.here (below_e2 W _ _)) (by simp; omega) (by simp <;> omega) ?_
         intro x1 w1 hx1 hk1 hg1
         have HV1 : Hid (NewKey W.heap.size w1 x1 e.k) := hx1
         have HB1 : Hid (Below W.heap.size W w1) := by first | exact (below_e1 W _).trans hk1.low | exact (below_e2 W _ _).trans hk1.low
         obtain ⟨b1, l1, d1, e1⟩ := hx1.shape
         subst e1
         clear hx1 hk1
         obtain ⟨m0, m1⟩ := (HX0.out.here HB1.out).cells)
      | (refine step_append_key (by rfl) _ _ (by rfl) W.heap.size _ (.slice a2 e.v.length c2) [] e.v (by rfl) (by first
            | exact newE (heap_alloc_last w1 _) HB1.out.size
            | exact newE (by obtain ⟨_, _, _, _, hbl⟩ := hg1; first | exact (hbl _ (by simp <;> omega) (fun e => absurd (show W.heap.size + 1 = W.heap.size from Option.some.inj e) (by omega))).trans (row_e3 W _ _) | exact (hbl _ (by simp <;> omega) (fun e => absurd (show W.heap.size = W.heap.size + 1 from Option.some.inj e) (by omega))).trans (row_e2 W _ _)) (by first | exact Nat.le_refl _ | exact Nat.le_succ _)) (by rfl) (by first | exact HK2.out.here HB1.out | exact HK2.out.here (HB1.out.alloc HB1.out.size _)) (by simp; omega) (by first | exact HB1.out.size | (simp; exact Nat.le_succ_of_le HB1.out.size)) ?_
         intro x2 w2 hx2 hk2 hg2
         have HV2 : Hid (KeyT w2 x2 e.v) := hx2.t
         have HV3 : Hid (KeyT w2 (.slice b1 l1 d1) e.k) := by first
           | exact (HV1.out.t.here (below_new _ _)).grown hg2 (heap_alloc_last w1 _)
           | exact HV1.out.t.grown hg2 (by obtain ⟨_, _, _, _, hbl⟩ := hg1; first | exact (hbl _ (by simp <;> omega) (fun e => absurd (show W.heap.size + 1 = W.heap.size from Option.some.inj e) (by omega))).trans (row_e3 W _ _) | exact (hbl _ (by simp <;> omega) (fun e => absurd (show W.heap.size = W.heap.size + 1 from Option.some.inj e) (by omega))).trans (row_e2 W _ _))
         have HB2 : Hid (Below W.heap.size W w2) := by first | exact HB1.out.trans hk2.low | exact (HB1.out.alloc HB1.out.size _).trans hk2.low
         obtain ⟨b2, l2, d2, e2⟩ := hx2.shape
         subst e2
         clear hx2 hk2 hg1 hg2
         obtain ⟨m0', m1'⟩ := (HX0.out.here HB2.out).cells
         obtain ⟨r0, r1⟩ := (HX1.out.here HB2.out).cells
         obtain ⟨f0, f1⟩ := (HX1.out.here HB2.out).open))
  all_goals
    go_wp2
    have hx2 := HX1.out.here HB2.out
    have hkp := hx2.keep2 (B := w.heap.size) (Nat.le_succ _) (.slice b1 l1 d1) (.slice b2 l2 d2)
    exact bodyPost_ret (ret_ent rfl rfl (hx2.put _ _)) rfl ⟨⟨.slice b1 l1 d1, .slice b2 l2 d2, e⟩, rfl, rfl, ⟨HV3.out.keep hkp (by decide), HV2.out.keep hkp (by decide)⟩, (HBW.out.trans (HB2.out.mono hwW)).trans hkp.low⟩
end Go.Proofs.Ytgifnaahahfhbaa
