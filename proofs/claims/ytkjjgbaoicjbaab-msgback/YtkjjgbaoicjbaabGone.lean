/- goneBehind. -/
import Derived.Test.YtkjjgbaoicjbaabPcs
namespace Go.Proofs.Ytkjjgbaoicjbaab
open Go.RowKit

/-- What goneBehind gives. -/
structure GonePost (base : Nat) (w : World) (F : List Pt) (a b : Key) (r : Ending) (w' : World) : Prop where
  is : ∃ (v : Value) (F' : List Pt), r = .returned v ∧ pcsOf F' = goneB (pcsOf F) a b ∧ F'.length ≤ F.length + 1 ∧ Pcs base w' v F' ∧ Keep 49 base w w'
theorem goneB_nil (a b : Key) : goneB [] a b = [⟨false, [], [], a, b⟩] := rfl
theorem goneB_last {l : List Pc} {n : Nat} {p : Pc} (hl : l.length = n + 1) (hp : l[n]? = some p) (a b : Key) : goneB l a b = if p.put = false ∧ p.hi = a then l.set n ⟨false, p.k, p.v, p.lo, b⟩ else l ++ [⟨false, [], [], a, b⟩] := by
  unfold goneB
  have e : l.getLast? = some p := by rw [List.getLast?_eq_getElem?, hl]; exact hp
  have e2 := getLast_eq e
  rw [e]
  simp only
  split
  · conv => rhs; rw [e2]
    rw [List.set_append_right _ _ (by simp [hl]), List.length_dropLast, hl]
    simp
  · rfl
theorem pcsOf_set (F : List Pt) (i : Nat) (x : Pt) : pcsOf (F.set i x) = (pcsOf F).set i x.p := by simp [pcsOf, List.map_set]

set_option maxHeartbeats 1600000 in
set_option maxRecDepth 100000 in
theorem gone_any {base : Nat} {w : World} {v u1 u2 : Value} {F : List Pt} {a b : Key} (hB : base ≤ w.heap.size) (hF : Pcs base w v F) (h1 : KeyK base w u1 a) (h2 : KeyK base w u2 b) (hl : (F.length + 1) * 112 ≤ 140737488355328) :
    Calls Try.prog 47 #[v, .agg #[u1, u2, .bool false]] w fun r w' => GonePost base w F a b r w' := by
  obtain ⟨a1, c1, rfl⟩ := h1.form
  obtain ⟨a2, c2, rfl⟩ := h2.form
  obtain ⟨av, cv, rfl⟩ := own_form' hF.own
  obtain ⟨W, hW⟩ : ∃ W, W = w.alloc (.cells #[.slice a1 a.length c1, .slice a2 b.length c2, .bool false] 25) := ⟨_, rfl⟩
  have HBW : Hid (Below w.heap.size w W) := by rw [hW]; exact below_new _ _
  have HBX : Hid (W.heap[w.heap.size]? = some (.cells #[.slice a1 a.length c1, .slice a2 b.length c2, .bool false] 25 (0, 0))) := by rw [hW]; exact heap_alloc_last _ _
  have HF : Hid (Pcs base W (.slice av F.length cv) F) := hF.here hB HBW.out
  have HA : Hid (KeyK base W (.slice a1 a.length c1) a) := h1.here hB HBW.out
  have HE : Hid (KeyK base W (.slice a2 b.length c2) b) := h2.here hB HBW.out
  have HBW' : Hid (base ≤ W.heap.size) := Nat.le_trans hB HBW.out.size
  have x0 : ∀ q, (W.drewN q).cell? ⟨w.heap.size, 0, none⟩ = some (.slice a1 a.length c1) := fun q => by rw [row_cell (w := W.drewN q) HBX.out]; rfl
  have x1 : ∀ q, (W.drewN q).cell? ⟨w.heap.size, 1, none⟩ = some (.slice a2 b.length c2) := fun q => by rw [row_cell (w := W.drewN q) HBX.out]; rfl
  have x2 : ∀ q, (W.drewN q).cell? ⟨w.heap.size, 2, none⟩ = some (.bool false) := fun q => by rw [row_cell (w := W.drewN q) HBX.out]; rfl
  have y0 := x0 0
  have y1 := x1 0
  have y2 := x2 0
  clear hF h1 h2
  rcases Nat.eq_zero_or_pos F.length with hf0 | hf0
  · obtain rfl : F = [] := List.eq_nil_of_length_eq_zero hf0
    have hf1 : decide ((0 : Int) < (([] : List Pt).length : Int)) = false := rfl
    clear hf0
    go_enter Try.func47, Try.ntmps47
    go_wp2_with fail
    rw [← hW]
    clear hW
    go_quiet (fail)
    have HND : Hid (Below W.heap.size W (W.drewN nq)) := below_draws (Below.refl _ _) _
    obtain ⟨N, hN⟩ : ∃ N, N = W.drewN nq := ⟨_, rfl⟩
    have n0 := x0 nq
    have n1 := x1 nq
    have n2 := x2 nq
    rw [← hN] at HND n0 n1 n2
    rw [← hN]
    have HFN : Hid (Pcs base N (.slice av ([] : List Pt).length cv) ([] : List Pt)) := HF.out.here HBW'.out HND.out
    have HAN : Hid (KeyK base N (.slice a1 a.length c1) a) := HA.out.here HBW'.out HND.out
    have HEN : Hid (KeyK base N (.slice a2 b.length c2) b) := HE.out.here HBW'.out HND.out
    have hbN : base ≤ N.heap.size := Nat.le_trans HBW'.out HND.out.size
    have HKN : Hid (Keep 49 base w N) := Keep.of (HBW.out.trans (HND.out.mono HBW.out.size)) hB
    clear hN x0 x1 x2 y0 y1 y2
    go_wp2_with (at_builtin
                 have HBM : Below N.heap.size N (N.alloc (.cells #[.bool false, .slice none 0 0, .slice none 0 0, .slice a1 a.length c1, .slice a2 b.length c2, .bool false] 49)) := below_new _ _
                 refine wpList_append_pcs rfl _ _ rfl base (.slice av ([] : List Pt).length cv) ([] : List Pt) ⟨.slice none 0 0, .slice none 0 0, .slice a1 a.length c1, .slice a2 b.length c2, ⟨false, [], [], a, b⟩⟩ N.heap.size rfl (HFN.out.here hbN HBM) rfl (heap_alloc_last _ _) ⟨KeyK.nil _ _, KeyK.nil _ _, HAN.out.here hbN HBM, HEN.out.here hbN HBM⟩ (by simp) (by have := HBM.size; omega) ?_
                 intro v4 w4 hp4 hk4
                 have HP : Hid (GonePost base w ([] : List Pt) a b (.returned v4) w4) := ⟨_, _, rfl, by rw [show pcsOf [] = [] from rfl, goneB_nil]; simp [pcsOf], by simp, hp4, (HKN.out.trans (Keep.of HBM hbN)).trans hk4⟩
                 clear hp4 hk4 HBM)
    go_ret
    exact HP.out
  · obtain ⟨n, hn⟩ : ∃ n, F.length = n + 1 := ⟨F.length - 1, by omega⟩
    obtain ⟨x, hx⟩ : ∃ x, F[n]? = some x := ⟨_, List.getElem?_eq_getElem (by omega)⟩
    obtain ⟨g, cg, e1, hg0, hgc, ⟨cur, hcur⟩, hce⟩ := HF.out.cells hx
    cases e1
    have HX : Hid (F[n]? = some x) := hx
    have HGB : Hid (∀ b, goneB (pcsOf F) a b = if x.p.put = false ∧ x.p.hi = a then (pcsOf F).set n ⟨false, x.p.k, x.p.v, x.p.lo, b⟩ else pcsOf F ++ [⟨false, [], [], a, b⟩]) := fun b => goneB_last (by simp [pcsOf, hn]) (by simp [pcsOf, hx]) a b
    have HKH : Hid (KeyK base W x.vh x.p.hi) := (HF.out.ok x (List.mem_of_getElem? hx)).hi
    obtain ⟨ah, ch, hh⟩ := HKH.out.form
    have m0 : W.cell? ⟨g, n * 6, none⟩ = some (.bool x.p.put) := hce 0 _ rfl
    have m4 : W.cell? ⟨g, n * 6 + 4, none⟩ = some (.slice ah x.p.hi.length ch) := by rw [← hh]; exact hce 4 _ rfl
    rw [hh] at HKH
    have hf1 : decide ((0 : Int) < (F.length : Int)) = true := by rw [decide_eq_true_eq]; omega
    have hf2 : (F.length : Int) - 1 = (n : Int) := by omega
    have hf3 : (n : Int) < (F.length : Int) := by omega
    have hf4 := wrapk_nat n (by omega)
    have hf5 : (0 : Int) < (F.length : Int) := by omega
    clear hce hx hn hh
    cases hput : x.p.put with
    | true =>
      rw [hput] at m0
      have HGB2 : Hid (goneB (pcsOf F) a b = pcsOf F ++ [⟨false, [], [], a, b⟩]) := by rw [Hid, HGB.out, hput]; simp
      clear hput HGB
      go_enter Try.func47, Try.ntmps47
      go_wp2_with fail
      rw [← hW]
      clear hW
      go_quiet (fail)
      have HND : Hid (Below W.heap.size W (W.drewN nq)) := below_draws (Below.refl _ _) _
      obtain ⟨N, hN⟩ : ∃ N, N = W.drewN nq := ⟨_, rfl⟩
      have n0 := x0 nq
      have n1 := x1 nq
      have n2 := x2 nq
      rw [← hN] at HND n0 n1 n2
      rw [← hN]
      have HFN : Hid (Pcs base N (.slice (some ⟨g, 0, none⟩) F.length cv) F) := HF.out.here HBW'.out HND.out
      have HAN : Hid (KeyK base N (.slice a1 a.length c1) a) := HA.out.here HBW'.out HND.out
      have HEN : Hid (KeyK base N (.slice a2 b.length c2) b) := HE.out.here HBW'.out HND.out
      have hbN : base ≤ N.heap.size := Nat.le_trans HBW'.out HND.out.size
      have HKN : Hid (Keep 49 base w N) := Keep.of (HBW.out.trans (HND.out.mono HBW.out.size)) hB
      clear hN x0 x1 x2 y0 y1 y2
      go_wp2_with (at_builtin
                   have HBM : Below N.heap.size N (N.alloc (.cells #[.bool false, .slice none 0 0, .slice none 0 0, .slice a1 a.length c1, .slice a2 b.length c2, .bool false] 49)) := below_new _ _
                   refine wpList_append_pcs rfl _ _ rfl base (.slice (some ⟨g, 0, none⟩) F.length cv) F ⟨.slice none 0 0, .slice none 0 0, .slice a1 a.length c1, .slice a2 b.length c2, ⟨false, [], [], a, b⟩⟩ N.heap.size rfl (HFN.out.here hbN HBM) rfl (heap_alloc_last _ _) ⟨KeyK.nil _ _, KeyK.nil _ _, HAN.out.here hbN HBM, HEN.out.here hbN HBM⟩ hl (by have := HBM.size; omega) ?_
                   intro v4 w4 hp4 hk4
                   have HP : Hid (GonePost base w F a b (.returned v4) w4) := ⟨_, _, rfl, by rw [HGB2.out]; simp [pcsOf], by simp, hp4, (HKN.out.trans (Keep.of HBM hbN)).trans hk4⟩
                   clear hp4 hk4 HBM)
      go_ret
      exact HP.out
    | false =>
      rw [hput] at m0
      have HKE : Hid (KeyAt W (.slice ah x.p.hi.length ch) x.p.hi) := HKH.out.at HBW'.out
      have HAE : Hid (KeyAt W (.slice a1 a.length c1) a) := HA.out.at HBW'.out
      by_cases hme : x.p.hi = a
      · have HGB2 : Hid (goneB (pcsOf F) a b = (pcsOf F).set n ⟨false, x.p.k, x.p.v, x.p.lo, b⟩) := by rw [Hid, HGB.out, hput, hme]; simp
        have HPU : Hid (x.p.put = false) := hput
        have hcm : (cmpK x.p.hi a == 0) = true := by rw [beq_iff_eq, cmpK_eq]; exact hme
        have o4 : W.frozen? ⟨g, n * 6 + 4, none⟩ = false := row_frozen hcur _
        clear hput HGB hme
        go_enter Try.func47, Try.ntmps47
        go_wp2_with fail
        rw [← hW]
        clear hW
        go_quiet (first
          | (go_at_call 37; exact Calls.quiet_of (compare_key (HKE.out.draws _) (HAE.out.draws _))))
        have HND : Hid (Below W.heap.size W (W.drewN nq)) := below_draws (Below.refl _ _) _
        obtain ⟨N, hN⟩ : ∃ N, N = W.drewN nq := ⟨_, rfl⟩
        have n1 := x1 nq
        have n4 : (W.drewN nq).cell? ⟨g, n * 6 + 3 + 1, none⟩ = some (.slice ah x.p.hi.length ch) := m4
        have p4 : (W.drewN nq).frozen? ⟨g, n * 6 + 3 + 1, none⟩ = false := o4
        rw [← hN] at HND n1 n4 p4
        rw [← hN]
        have HFN : Hid (Pcs base N (.slice (some ⟨g, 0, none⟩) F.length cv) F) := HF.out.here HBW'.out HND.out
        have HEN : Hid (KeyK base N (.slice a2 b.length c2) b) := HE.out.here HBW'.out HND.out
        have HKN : Hid (Keep 49 base w N) := Keep.of (HBW.out.trans (HND.out.mono HBW.out.size)) hB
        obtain ⟨hs, hk⟩ := HFN.out.set HX.out HEN.out
        have HP : Hid (GonePost base w F a b (.returned (.slice (some ⟨g, 0, none⟩) F.length cv)) (N.setCell ⟨g, n * 6 + 3 + 1, none⟩ (.slice a2 b.length c2))) := ⟨_, _, rfl, by rw [HGB2.out, pcsOf_set, HPU.out], by rw [List.length_set]; omega, hs, HKN.out.trans hk⟩
        clear hN x0 x1 x2 y0 y1 y2 m0 m4 o4 hs hk hcur
        go_wp2
        go_ret
        exact HP.out
      · have HGB2 : Hid (goneB (pcsOf F) a b = pcsOf F ++ [⟨false, [], [], a, b⟩]) := by rw [Hid, HGB.out, if_neg (fun h => hme h.2)]
        have hcm : (cmpK x.p.hi a == 0) = false := by rw [beq_eq_false_iff_ne]; intro h; exact hme (cmpK_eq.1 h)
        clear hput HGB hme
        go_enter Try.func47, Try.ntmps47
        go_wp2_with fail
        rw [← hW]
        clear hW
        go_quiet (first
          | (go_at_call 37; exact Calls.quiet_of (compare_key (HKE.out.draws _) (HAE.out.draws _))))
        have HND : Hid (Below W.heap.size W (W.drewN nq)) := below_draws (Below.refl _ _) _
        obtain ⟨N, hN⟩ : ∃ N, N = W.drewN nq := ⟨_, rfl⟩
        have n0 := x0 nq
        have n1 := x1 nq
        have n2 := x2 nq
        rw [← hN] at HND n0 n1 n2
        rw [← hN]
        have HFN : Hid (Pcs base N (.slice (some ⟨g, 0, none⟩) F.length cv) F) := HF.out.here HBW'.out HND.out
        have HAN : Hid (KeyK base N (.slice a1 a.length c1) a) := HA.out.here HBW'.out HND.out
        have HEN : Hid (KeyK base N (.slice a2 b.length c2) b) := HE.out.here HBW'.out HND.out
        have hbN : base ≤ N.heap.size := Nat.le_trans HBW'.out HND.out.size
        have HKN : Hid (Keep 49 base w N) := Keep.of (HBW.out.trans (HND.out.mono HBW.out.size)) hB
        clear hN x0 x1 x2 y0 y1 y2
        go_wp2_with (at_builtin
                     have HBM : Below N.heap.size N (N.alloc (.cells #[.bool false, .slice none 0 0, .slice none 0 0, .slice a1 a.length c1, .slice a2 b.length c2, .bool false] 49)) := below_new _ _
                     refine wpList_append_pcs rfl _ _ rfl base (.slice (some ⟨g, 0, none⟩) F.length cv) F ⟨.slice none 0 0, .slice none 0 0, .slice a1 a.length c1, .slice a2 b.length c2, ⟨false, [], [], a, b⟩⟩ N.heap.size rfl (HFN.out.here hbN HBM) rfl (heap_alloc_last _ _) ⟨KeyK.nil _ _, KeyK.nil _ _, HAN.out.here hbN HBM, HEN.out.here hbN HBM⟩ hl (by have := HBM.size; omega) ?_
                     intro v4 w4 hp4 hk4
                     have HP : Hid (GonePost base w F a b (.returned v4) w4) := ⟨_, _, rfl, by rw [HGB2.out]; simp [pcsOf], by simp, hp4, (HKN.out.trans (Keep.of HBM hbN)).trans hk4⟩
                     clear hp4 hk4 HBM)
        go_ret
        exact HP.out
end Go.Proofs.Ytkjjgbaoicjbaab
