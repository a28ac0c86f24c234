/- The document's byLo. -/
import Derived.Test.YtaehchijeinloabR4Rows
import Derived.Test.YtaehchijeinloabR4Ref
import Derived.Test.YtaehchijeinloabUnite
namespace Go.Proofs.Ytaehchijeinloab
open Go.RowKit

theorem flat_drop (L : List It) (n : Nat) : flat (L.drop n) = (flat L).drop (n * 3) := by
  induction L generalizing n with
  | nil => simp [flat]
  | cons e L ih =>
    cases n with
    | zero => simp
    | succ n => rw [List.drop_succ_cons, ih, flat_cons, show (n + 1) * 3 = n * 3 + 1 + 1 + 1 by omega]; simp
theorem ListAt.first {B : Nat} {w : World} {g off c : Nat} {L : List It} (h : ListAt B w (.slice (some ⟨g, off, none⟩) L.length c) L) (n : Nat) (hn : n ≤ L.length) : ListAt B w (.slice (some ⟨g, off, none⟩) n c) (L.take n) := by
  obtain ⟨⟨a, c', e, h2, h3, h4⟩, h5, h6⟩ := h
  cases e
  have hl : (L.take n).length = n := by simp [hn]
  refine ⟨⟨_, c, by rw [hl], by rw [hl]; omega, h3, fun j u hj => ?_⟩, by rw [hl]; omega, fun e he => h6 e (List.mem_of_mem_take he)⟩
  rw [← flat_take, List.getElem?_take] at hj
  split at hj
  · exact h4 j u hj
  · simp at hj
theorem ListAt.rest {B : Nat} {w : World} {g off c : Nat} {L : List It} (h : ListAt B w (.slice (some ⟨g, off, none⟩) L.length c) L) (n : Nat) (hn : n ≤ L.length) : ListAt B w (.slice (some ⟨g, off + n * 3, none⟩) (L.length - n) (c - n)) (L.drop n) := by
  obtain ⟨⟨a, c', e, h2, h3, h4⟩, h5, h6⟩ := h
  cases e
  have hl : (L.drop n).length = L.length - n := by simp
  refine ⟨⟨_, c - n, by rw [hl], by rw [hl]; omega, fun e => (by cases e), fun j u hj => ?_⟩, by rw [hl]; omega, fun e he => h6 e (List.mem_of_mem_drop he)⟩
  rw [flat_drop, List.getElem?_drop] at hj
  obtain ⟨g', off', e1, e2, e3⟩ := h4 _ u hj
  cases e1
  exact ⟨g, off + n * 3, rfl, e2, by rw [Nat.add_assoc]; exact e3⟩

theorem ListAt.at3 {B : Nat} {w : World} {a : Option Addr} {n c : Nat} {L : List It} (h : ListAt B w (.slice a n c) L) (i : Nat) (e : It) (hi : L[i]? = some e) : ∃ g off, a = some ⟨g, off, none⟩ ∧ g < B ∧ w.cell? ⟨g, off + i * 3, none⟩ = some e.v1 ∧ w.cell? ⟨g, off + i * 3 + 1, none⟩ = some e.v2 ∧ w.cell? ⟨g, off + i * 3 + 2, none⟩ = some (.bool e.r.all) := by
  obtain ⟨a', c', e', h2, h3, h4⟩ := h.is
  cases e'
  obtain ⟨f0, f1, f2⟩ := flat_get L i e hi
  obtain ⟨g, off, e1, e2, e3⟩ := h4 _ _ f0
  obtain ⟨_, _, e4, _, e5⟩ := h4 _ _ f1
  obtain ⟨_, _, e6, _, e7⟩ := h4 _ _ f2
  subst e1
  cases e4
  cases e6
  exact ⟨g, off, rfl, e2, e3, by rw [Nat.add_assoc]; exact e5, by rw [Nat.add_assoc]; exact e7⟩
theorem one_cell (W : World) (e : It) (j : Nat) (u : Value) (hj : e.cells[j]? = some u) : (W.alloc (.cells #[e.v1, e.v2, .bool e.r.all] 28)).cell? ((⟨W.heap.size, 0, none⟩ : Addr).add j) = some u := by
  rw [add_at, Nat.zero_add, row_cell (heap_alloc_last W _)]
  match j, hj with
  | 0, hj => simpa [It.cells] using hj
  | 1, hj => simpa [It.cells] using hj
  | 2, hj => simpa [It.cells] using hj
  | j + 3, hj => simp [It.cells] at hj
theorem own_list {base : Nat} {w : World} {v : Value} {C : List It} (h : w.ownsRow base 28 3 v C.length (flat C)) (hs : C.length * 56 ≤ 140737488355328) (hok : ∀ e ∈ C, e.Ok w.heap.size w) : ListAt w.heap.size w v C := by
  rcases own_row h with ⟨rfl, rfl⟩ | ⟨g, c, rfl, hb, hc, hm, hrow⟩
  · exact ⟨⟨none, 0, rfl, Nat.le_refl _, fun _ => rfl, fun j u hj => by simp [flat] at hj⟩, hs, hok⟩
  · refine ⟨⟨_, c, rfl, hc, fun e => (by cases e), fun j u hj => ⟨g, 0, rfl, hrow.lt, ?_⟩⟩, hs, hok⟩
    obtain ⟨cur, h1, h2, h3⟩ := hrow.is
    have hl : j < C.length * 3 := by rw [← flat_length]; exact (List.getElem?_eq_some_iff.1 hj).1
    rw [Nat.zero_add, row_cell h1, ← hj, ← h3, List.getElem?_take, if_pos hl, Array.getElem?_toList]
/-- Two rising lists, while they are made one. -/
structure Mix (A B C : List It) (i k : Nat) : Prop where
  perm : C.Perm (A.take i ++ B.take k)
  rise : Rises C
  low : ∀ x ∈ C, (∀ y ∈ A.drop i, x.r.lo ≤ y.r.lo) ∧ (∀ y ∈ B.drop k, x.r.lo ≤ y.r.lo)
theorem Rises.least {A : List It} (h : Rises A) {i : Nat} {x : It} (hx : A[i]? = some x) : ∀ y ∈ A.drop i, x.r.lo ≤ y.r.lo := fun y hy => by
  have hl := (List.getElem?_eq_some_iff.1 hx).1
  have hd : A.drop i = x :: A.drop (i + 1) := by
    rw [List.drop_eq_getElem_cons hl]
    rw [List.getElem?_eq_getElem hl] at hx
    cases hx
    rfl
  have hp : (A.drop i).Pairwise fun x y => x.r.lo ≤ y.r.lo := h.sublist (List.drop_sublist _ _)
  rw [hd] at hy hp
  rcases List.mem_cons.1 hy with rfl | hy
  · exact List.le_refl _
  · exact (List.pairwise_cons.1 hp).1 y hy
theorem rises_snoc {C : List It} {x : It} (h : Rises C) (hx : ∀ y ∈ C, y.r.lo ≤ x.r.lo) : Rises (C ++ [x]) :=
  List.pairwise_append.2 ⟨h, List.pairwise_singleton _ _, fun a ha b hb => by simp at hb; rw [hb]; exact hx a ha⟩
theorem mem_drop_next {A : List It} {i : Nat} {y : It} (h : y ∈ A.drop (i + 1)) : y ∈ A.drop i := by
  rw [← List.drop_drop] at h
  exact List.mem_of_mem_drop h
theorem Mix.left {A B C : List It} {i k : Nat} {x : It} (h : Mix A B C i k) (hA : Rises A) (hx : A[i]? = some x) (hb : ∀ y ∈ B.drop k, x.r.lo ≤ y.r.lo) : Mix A B (C ++ [x]) (i + 1) k := by
  have hm : x ∈ A.drop i := List.mem_of_getElem? (i := 0) (by rw [List.getElem?_drop]; simpa using hx)
  refine ⟨?_, rises_snoc h.rise fun y hy => (h.low y hy).1 x hm, fun z hz => ?_⟩
  · rw [List.take_add_one, hx]
    simp only [Option.toList_some]
    refine (h.perm.append_right [x]).trans ?_
    rw [List.append_assoc, List.append_assoc]
    exact List.Perm.append_left _ List.perm_append_comm
  · rcases List.mem_append.1 hz with hz | hz
    · exact ⟨fun y hy => (h.low z hz).1 y (mem_drop_next hy), (h.low z hz).2⟩
    · simp at hz
      rw [hz]
      exact ⟨fun y hy => hA.least hx y (mem_drop_next hy), hb⟩
theorem Mix.right {A B C : List It} {i k : Nat} {x : It} (h : Mix A B C i k) (hB : Rises B) (hx : B[k]? = some x) (hb : ∀ y ∈ A.drop i, x.r.lo ≤ y.r.lo) : Mix A B (C ++ [x]) i (k + 1) := by
  have hm : x ∈ B.drop k := List.mem_of_getElem? (i := 0) (by rw [List.getElem?_drop]; simpa using hx)
  refine ⟨?_, rises_snoc h.rise fun y hy => (h.low y hy).2 x hm, fun z hz => ?_⟩
  · rw [List.take_add_one, hx]
    simp only [Option.toList_some]
    refine (h.perm.append_right [x]).trans ?_
    rw [List.append_assoc]
  · rcases List.mem_append.1 hz with hz | hz
    · exact ⟨(h.low z hz).1, fun y hy => (h.low z hz).2 y (mem_drop_next hy)⟩
    · simp at hz
      rw [hz]
      exact ⟨hb, fun y hy => hB.least hx y (mem_drop_next hy)⟩
theorem drop_none {A : List It} {i : Nat} (h : A.length ≤ i) {p : It → Prop} : ∀ y ∈ A.drop i, p y := fun y hy => by
  rw [List.drop_eq_nil_of_le h] at hy
  simp at hy

set_option maxHeartbeats 3200000 in
set_option maxRecDepth 100000 in
theorem refByLo_step {w : World} {v : Value} {L : List It} (h : ListAt w.heap.size w v L)
    (ih : ∀ (w : World) (v : Value) (M : List It), M.length < L.length → ListAt w.heap.size w v M → Calls Try.prog 32 #[v] w fun e w' => ∃ v' N, e = .returned v' ∧ ListAt w'.heap.size w' v' N ∧ N.Perm M ∧ Rises N ∧ Below w.heap.size w w') :
    Calls Try.prog 32 #[v] w fun e w' => ∃ v' N, e = .returned v' ∧ ListAt w'.heap.size w' v' N ∧ N.Perm L ∧ Rises N ∧ Below w.heap.size w w' := by
  have HL : Hid (ListAt w.heap.size w v L) := h
  have IH : Hid _ := ih
  obtain ⟨a, c, rfl, hlc, _⟩ := h.is
  have hs := h.short
  clear h ih
  by_cases h2 : L.length < 2
  · have h2' : (L.length : Int) < 2 := by omega
    go_enter Try.func32, Try.ntmps32
    go_wp2
    go_ret
    refine ⟨_, L, rfl, HL.out, List.Perm.refl _, ?_, Below.refl _ _⟩
    match L, h2 with
    | [], _ => exact List.Pairwise.nil
    | [x], _ => exact List.pairwise_singleton _ _
  · have h2' : ¬ (L.length : Int) < 2 := by omega
    obtain ⟨g, off, rfl⟩ : ∃ g off, a = some ⟨g, off, none⟩ := by
      obtain ⟨a', c', e, _, _, hcell⟩ := HL.out.is
      cases e
      obtain ⟨x, M, rfl⟩ := List.exists_cons_of_ne_nil (l := L) (fun e => by rw [e] at h2; simp at h2)
      obtain ⟨g, off, e, _⟩ := hcell 0 x.v1 rfl
      exact ⟨g, off, e⟩
    go_enter Try.func32, Try.ntmps32
    go_wp2_with fail
    obtain ⟨m, hm⟩ : ∃ m, L.length / 2 = m := ⟨_, rfl⟩
    have hm1 : m < L.length := by omega
    have hm2 : 0 < m := by omega
    refine (IH.out w _ (L.take m) (by simp; omega) (by rw [hm]; exact HL.out.first m (by omega))).mono ?_
    rintro e w1 ⟨va, A, rfl, hA, pA, rA, hb1⟩
    have HA : Hid (ListAt w1.heap.size w1 va A) := hA
    have PA : Hid (A.Perm (L.take m)) := pA
    have RA : Hid (Rises A) := rA
    have HB1 : Hid (Below w.heap.size w w1) := hb1
    obtain ⟨a1, c1, rfl, _⟩ := hA.is
    clear hA pA rA hb1
    go_wp2_with fail
    refine (IH.out w1 _ (L.drop m) (by simp; omega) ((HL.out.rest m (by omega)).here HB1.out)).mono ?_
    rintro e w2 ⟨vb, B, rfl, hB, pB, rB, hb2⟩
    have HB : Hid (ListAt w2.heap.size w2 vb B) := hB
    have HA2 : Hid (ListAt w2.heap.size w2 (.slice a1 A.length c1) A) := HA.out.here hb2
    have PB : Hid (B.Perm (L.drop m)) := pB
    have RB : Hid (Rises B) := rB
    have HB2 : Hid (Below w.heap.size w w2) := HB1.out.trans (hb2.mono HB1.out.size)
    have hlA : A.length = m := by rw [PA.out.length_eq]; simp; omega
    have hlB : B.length = L.length - m := by rw [pB.length_eq]; simp
    obtain ⟨a2, c2, rfl, _⟩ := hB.is
    obtain ⟨i0, hi, hz0, hz1, hz2⟩ := info36'
    have HLA : Hid (A.length = m) := hlA
    have HLB : Hid (B.length = L.length - m) := hlB
    clear hB pB rB hb2 HA hlA hlB hm
    go_wp2
    go_loopw [5, 6, 7, 8, 9] (fun s5 s6 s7 _ _ wr => ∃ (i k : Nat) (C : List It), s6 = .int .i64 i ∧ s7 = .int .i64 k ∧ i ≤ A.length ∧ k ≤ B.length ∧ C.length = i + k ∧ wr.ownsRow w2.heap.size 28 3 s5 C.length (flat C) ∧ Mix A B C i k ∧ Below w2.heap.size w2 wr) (fun _ s6 s7 _ _ _ => (A.length + B.length) - ((intOf s6).toNat + (intOf s7).toNat))
    case atStart => exact ⟨0, 0, [], rfl, rfl, Nat.zero_le _, Nat.zero_le _, rfl, World.ownsRow_nil _ _ _ _, ⟨by simp, List.Pairwise.nil, fun x hx => by simp at hx⟩, Below.refl _ _⟩
    case round =>
      obtain ⟨i, k, C, rfl, rfl, hiA, hkB, hlC, hown, hmix, hbe⟩ := hrel
      have HOWN : Hid (wr.ownsRow w2.heap.size 28 3 u5 C.length (flat C)) := hown
      have HMIX : Hid (Mix A B C i k) := hmix
      have HBE : Hid (Below w2.heap.size w2 wr) := hbe
      have hsr : w2.heap.size ≤ wr.heap.size := hbe.size
      obtain ⟨a5, c5, rfl⟩ : ∃ a5 c5, u5 = .slice a5 C.length c5 := by
        rcases own_row hown with ⟨rfl, rfl⟩ | ⟨g, cc, rfl, _⟩
        · exact ⟨_, _, rfl⟩
        · exact ⟨_, _, rfl⟩
      have HOWN2 : Hid (∀ (W : World), Below wr.heap.size wr W → ∀ o : Obj, (W.alloc o).ownsRow w2.heap.size 28 3 (.slice a5 C.length c5) C.length (flat C)) := by
        intro W hW o
        have hb : Below wr.heap.size wr (W.alloc o) := hW.alloc hW.size o
        exact own_same HOWN.out fun b _ hl => hb.block b hl
      have HGROW : Hid (∀ (W : World) (o : Obj) (w' : World), Below wr.heap.size wr W → (W.alloc o).grownBy w' (Value.slice a5 C.length c5).ownBlock → Below w2.heap.size wr w') := by
        intro W o w' hW hg
        have hb : Below wr.heap.size wr (W.alloc o) := hW.alloc hW.size o
        exact (hb.mono hsr).grown hg (Nat.le_trans hsr hb.size) (fun k hk => (own_type HOWN.out k hk).2.1)
      clear hown hmix hbe
      have hlc1 : C.length ≤ i + k := Nat.le_of_eq hlC
      have hlc2 : i + k ≤ C.length := Nat.le_of_eq hlC.symm
      have hla : A.length ≤ m := Nat.le_of_eq HLA.out
      have hlb : B.length ≤ L.length - m := Nat.le_of_eq HLB.out
      clear hlC
      by_cases hA : i < A.length
      · have hAz : (i : Int) < (A.length : Int) := by omega
        obtain ⟨x, hx⟩ : ∃ x, A[i]? = some x := ⟨_, List.getElem?_eq_getElem hA⟩
        have HX : Hid (A[i]? = some x) := hx
        obtain ⟨g1, off1, rfl, hg1, x0, x1, x2⟩ := (HA2.out.below HBE.out).at3 i x hx
        have HXO : Hid (x.Ok w2.heap.size wr) := (HA2.out.ok x (List.mem_of_getElem? hx)).below HBE.out
        obtain ⟨y1, y2, r⟩ := x
        obtain ⟨p1, q1, e1⟩ := HXO.out.lo.form
        obtain ⟨p2, q2, e2⟩ := HXO.out.hi.form
        simp only at e1 e2 x0 x1 x2
        subst e1 e2
        clear hx
        by_cases hB : k < B.length
        · have hBz : (k : Int) < (B.length : Int) := by omega
          have hBn : ((k : Int) == (B.length : Int)) = false := beq_eq_false_iff_ne.2 (by omega)
          obtain ⟨y, hy⟩ : ∃ y, B[k]? = some y := ⟨_, List.getElem?_eq_getElem hB⟩
          have HY : Hid (B[k]? = some y) := hy
          obtain ⟨g2, off2, rfl, hg2, y0, z1, z2⟩ := (HB.out.below HBE.out).at3 k y hy
          have HYO : Hid (y.Ok w2.heap.size wr) := (HB.out.ok y (List.mem_of_getElem? hy)).below HBE.out
          obtain ⟨y1, y2, o⟩ := y
          obtain ⟨s1, t1, e1⟩ := HYO.out.lo.form
          obtain ⟨s2, t2, e2⟩ := HYO.out.hi.form
          simp only at e1 e2 y0 z1 z2
          subst e1 e2
          clear hy
          have HCO : Hid _ := refCompare_key (((HXO.out.lo.at hsr).here ((Below.refl _ wr).drew))) (((HYO.out.lo.at hsr).here ((Below.refl _ wr).drew)))
          simp only at HCO
          go_wp2_with fail
          go_region_held_law (fun W' => W'.cell? ⟨g1, off1 + i * 3, none⟩ = some (.slice p1 r.lo.length q1) ∧ W'.cell? ⟨g2, off2 + k * 3, none⟩ = some (.slice s1 o.lo.length t1)) (first | (refine ⟨?_, ?_⟩ <;> with_reducible assumption) | (go_keep; done))
            (first
              | (go_at_call 42; refine Calls.mono HCO.out ?_
                 rintro e w3 ⟨rfl, q, hw3⟩
                 have HBW : Hid (Below wr.heap.size wr w3) := by rw [hw3]; exact below_draws ((Below.refl _ wr).drew) q
                 clear hw3
                 obtain ⟨_, _, e9, _, x0', x1', x2'⟩ := (((HA2.out.below HBE.out).below (HBW.out.mono hsr))).at3 i _ HX.out
                 cases e9
                 obtain ⟨_, _, e9, _, y0', y1', y2'⟩ := (((HB.out.below HBE.out).below (HBW.out.mono hsr))).at3 k _ HY.out
                 cases e9
                 simp only at x0' x1' x2' y0' y1' y2'))
          clear x0 x1 x2 y0 z1 z2
          have hs3 : wr.heap.size ≤ w3.heap.size := HBW.out.size
          by_cases hle : r.lo ≤ o.lo
          · have hz : cmpK r.lo o.lo ≤ 0 := cmpK_le.2 hle
            have HM : Hid (Mix A B (C ++ [⟨.slice p1 r.lo.length q1, .slice p2 r.hi.length q2, r⟩]) (i + 1) k) := HMIX.out.left RA.out HX.out fun y hy => List.le_trans hle (RB.out.least HY.out y hy)
            have HOA : Hid _ := HOWN2.out w3 HBW.out
            have HON : Hid _ := slice_one3 HXO.out
            go_wp2_with (at_builtin
                         refine wpList_append_own _ rfl _ _ 32 rfl w2.heap.size 28 i0 (.agg #[.slice none 0 0, .slice none 0 0, .bool false]) 3 56 Try.underlying32 hi hz0 hz1 hz2 rfl (by decide) _ C.length (flat C) rfl (HOA.out _) ⟨w3.heap.size, 0, none⟩ 1 1 (It.cells ⟨.slice p1 r.lo.length q1, .slice p2 r.hi.length q2, r⟩) rfl rfl (one_cell w3 ⟨.slice p1 r.lo.length q1, .slice p2 r.hi.length q2, r⟩) HON.out (by unfold maxLen; omega) (by omega) (by simp; omega) ?_
                         intro v' w' hown hgr hiff
                         have HOW : Hid (w'.ownsRow w2.heap.size 28 3 v' (C.length + 1) (flat C ++ It.cells ⟨.slice p1 r.lo.length q1, .slice p2 r.hi.length q2, r⟩)) := hown
                         have HGR : Hid _ := hgr
                         clear hown hgr hiff)
            refine ⟨⟨i + 1, k, C ++ [⟨.slice p1 r.lo.length q1, .slice p2 r.hi.length q2, r⟩], ?_, ?_, ?_, ?_, by simp; omega, ?_, HM.out, HBE.out.trans (HGROW.out w3 _ w' HBW.out HGR.out)⟩, by simp [intOf]; omega⟩
            · go_num
            · rfl
            · omega
            · omega
            · rw [flat_append, List.length_append]
              simpa [flat] using HOW.out
          · have hz : ¬ cmpK r.lo o.lo ≤ 0 := fun h => hle (cmpK_le.1 h)
            have HM : Hid (Mix A B (C ++ [⟨.slice s1 o.lo.length t1, .slice s2 o.hi.length t2, o⟩]) i (k + 1)) := HMIX.out.right RB.out HY.out fun y hy => List.le_trans (List.le_of_lt (List.not_le.1 hle)) (RA.out.least HX.out y hy)
            have HOA : Hid _ := HOWN2.out w3 HBW.out
            have HON : Hid _ := slice_one3 HYO.out
            go_wp2_with (at_builtin
                         refine wpList_append_own _ rfl _ _ 32 rfl w2.heap.size 28 i0 (.agg #[.slice none 0 0, .slice none 0 0, .bool false]) 3 56 Try.underlying32 hi hz0 hz1 hz2 rfl (by decide) _ C.length (flat C) rfl (HOA.out _) ⟨w3.heap.size, 0, none⟩ 1 1 (It.cells ⟨.slice s1 o.lo.length t1, .slice s2 o.hi.length t2, o⟩) rfl rfl (one_cell w3 ⟨.slice s1 o.lo.length t1, .slice s2 o.hi.length t2, o⟩) HON.out (by unfold maxLen; omega) (by omega) (by simp; omega) ?_
                         intro v' w' hown hgr hiff
                         have HOW : Hid (w'.ownsRow w2.heap.size 28 3 v' (C.length + 1) (flat C ++ It.cells ⟨.slice s1 o.lo.length t1, .slice s2 o.hi.length t2, o⟩)) := hown
                         have HGR : Hid _ := hgr
                         clear hown hgr hiff)
            refine ⟨⟨i, k + 1, C ++ [⟨.slice s1 o.lo.length t1, .slice s2 o.hi.length t2, o⟩], ?_, ?_, ?_, ?_, by simp; omega, ?_, HM.out, HBE.out.trans (HGROW.out w3 _ w' HBW.out HGR.out)⟩, by simp [intOf]; omega⟩
            · rfl
            · go_num
            · omega
            · omega
            · rw [flat_append, List.length_append]
              simpa [flat] using HOW.out
        · have hBz : ¬ (k : Int) < (B.length : Int) := by omega
          have hBe : ((k : Int) == (B.length : Int)) = true := beq_iff_eq.2 (by omega)
          have HBW : Hid (Below wr.heap.size wr wr) := Below.refl _ _
          have HM : Hid (Mix A B (C ++ [⟨.slice p1 r.lo.length q1, .slice p2 r.hi.length q2, r⟩]) (i + 1) k) := HMIX.out.left RA.out HX.out (drop_none (by omega))
          have HOA : Hid _ := HOWN2.out wr HBW.out
          have HON : Hid _ := slice_one3 HXO.out
          go_wp2_with (at_builtin
                       refine wpList_append_own _ rfl _ _ 32 rfl w2.heap.size 28 i0 (.agg #[.slice none 0 0, .slice none 0 0, .bool false]) 3 56 Try.underlying32 hi hz0 hz1 hz2 rfl (by decide) _ C.length (flat C) rfl (HOA.out _) ⟨wr.heap.size, 0, none⟩ 1 1 (It.cells ⟨.slice p1 r.lo.length q1, .slice p2 r.hi.length q2, r⟩) rfl rfl (one_cell wr ⟨.slice p1 r.lo.length q1, .slice p2 r.hi.length q2, r⟩) HON.out (by unfold maxLen; omega) (by omega) (by simp; omega) ?_
                       intro v' w' hown hgr hiff
                       have HOW : Hid (w'.ownsRow w2.heap.size 28 3 v' (C.length + 1) (flat C ++ It.cells ⟨.slice p1 r.lo.length q1, .slice p2 r.hi.length q2, r⟩)) := hown
                       have HGR : Hid _ := hgr
                       clear hown hgr hiff)
          refine ⟨⟨i + 1, k, C ++ [⟨.slice p1 r.lo.length q1, .slice p2 r.hi.length q2, r⟩], ?_, ?_, ?_, ?_, by simp; omega, ?_, HM.out, HBE.out.trans (HGROW.out wr _ w' HBW.out HGR.out)⟩, by simp [intOf]; omega⟩
          · go_num
          · rfl
          · omega
          · omega
          · rw [flat_append, List.length_append]
            simpa [flat] using HOW.out
      · have hAz : ¬ (i : Int) < (A.length : Int) := by omega
        by_cases hB : k < B.length
        · have hBz : (k : Int) < (B.length : Int) := by omega
          have hBn : ((k : Int) == (B.length : Int)) = false := beq_eq_false_iff_ne.2 (by omega)
          obtain ⟨y, hy⟩ : ∃ y, B[k]? = some y := ⟨_, List.getElem?_eq_getElem hB⟩
          have HY : Hid (B[k]? = some y) := hy
          obtain ⟨g2, off2, rfl, hg2, y0, z1, z2⟩ := (HB.out.below HBE.out).at3 k y hy
          have HYO : Hid (y.Ok w2.heap.size wr) := (HB.out.ok y (List.mem_of_getElem? hy)).below HBE.out
          obtain ⟨y1, y2, o⟩ := y
          obtain ⟨s1, t1, e1⟩ := HYO.out.lo.form
          obtain ⟨s2, t2, e2⟩ := HYO.out.hi.form
          simp only at e1 e2 y0 z1 z2
          subst e1 e2
          clear hy
          have HBW : Hid (Below wr.heap.size wr wr) := Below.refl _ _
          have HM : Hid (Mix A B (C ++ [⟨.slice s1 o.lo.length t1, .slice s2 o.hi.length t2, o⟩]) i (k + 1)) := HMIX.out.right RB.out HY.out (drop_none (by omega))
          have HOA : Hid _ := HOWN2.out wr HBW.out
          have HON : Hid _ := slice_one3 HYO.out
          go_wp2_with (at_builtin
                       refine wpList_append_own _ rfl _ _ 32 rfl w2.heap.size 28 i0 (.agg #[.slice none 0 0, .slice none 0 0, .bool false]) 3 56 Try.underlying32 hi hz0 hz1 hz2 rfl (by decide) _ C.length (flat C) rfl (HOA.out _) ⟨wr.heap.size, 0, none⟩ 1 1 (It.cells ⟨.slice s1 o.lo.length t1, .slice s2 o.hi.length t2, o⟩) rfl rfl (one_cell wr ⟨.slice s1 o.lo.length t1, .slice s2 o.hi.length t2, o⟩) HON.out (by unfold maxLen; omega) (by omega) (by simp; omega) ?_
                       intro v' w' hown hgr hiff
                       have HOW : Hid (w'.ownsRow w2.heap.size 28 3 v' (C.length + 1) (flat C ++ It.cells ⟨.slice s1 o.lo.length t1, .slice s2 o.hi.length t2, o⟩)) := hown
                       have HGR : Hid _ := hgr
                       clear hown hgr hiff)
          refine ⟨⟨i, k + 1, C ++ [⟨.slice s1 o.lo.length t1, .slice s2 o.hi.length t2, o⟩], ?_, ?_, ?_, ?_, by simp; omega, ?_, HM.out, HBE.out.trans (HGROW.out wr _ w' HBW.out HGR.out)⟩, by simp [intOf]; omega⟩
          · rfl
          · go_num
          · omega
          · omega
          · rw [flat_append, List.length_append]
            simpa [flat] using HOW.out
        · have hBz : ¬ (k : Int) < (B.length : Int) := by omega
          go_wp2
          go_ret
          have hiA' : i = A.length := by omega
          have hkB' : k = B.length := by omega
          have hlen : C.length * 56 ≤ 140737488355328 := by omega
          refine ⟨_, rfl, C, own_list HOWN.out hlen fun e he => ?_, ?_, HMIX.out.rise, HB2.out.trans (HBE.out.mono HB2.out.size)⟩
          · rcases List.mem_append.1 (HMIX.out.perm.mem_iff.1 he) with h | h
            · exact ((HA2.out.ok e (List.mem_of_mem_take h)).below HBE.out).mono hsr
            · exact ((HB.out.ok e (List.mem_of_mem_take h)).below HBE.out).mono hsr
          · have := HMIX.out.perm
            rw [hiA', hkB', List.take_length, List.take_length] at this
            refine this.trans ((PA.out.append PB.out).trans ?_)
            rw [List.take_append_drop]
theorem refByLo_any : ∀ (n : Nat) (w : World) (v : Value) (L : List It), L.length = n → ListAt w.heap.size w v L → Calls Try.prog 32 #[v] w fun e w' => ∃ v' N, e = .returned v' ∧ ListAt w'.heap.size w' v' N ∧ N.Perm L ∧ Rises N ∧ Below w.heap.size w w' := by
  intro n
  induction n using Nat.strongRecOn with
  | ind n ih =>
    intro w v L hn h
    exact refByLo_step h fun w v M hM hl => ih M.length (by omega) w v M rfl hl
end Go.Proofs.Ytaehchijeinloab
