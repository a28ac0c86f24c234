/- The law PolicyAll, walked. -/
import Derived.Test.YtejenfcfngjaaaaRoundW
namespace Go.Proofs.Ytejenfcfngjaaaa
open Go.RowKit

/-- A script of one place, said twice. -/
def two_ (k : Nat) : Ch := ⟨4, [(k : Int), -1 - (k : Int)], -1, 0⟩
theorem two_ok {k : Nat} (h : k ≤ 1000000) : ∀ p ∈ [(k : Int), -1 - (k : Int)], -9223372036854775808 ≤ p ∧ p ≤ 9223372036854775807 := by
  intro p hp
  simp at hp
  rcases hp with rfl | rfl <;> omega
theorem two_first {W : List Int} {k : Nat} {i : Int} (h : (mayI W W.length)[k]? = some i) : ansI (two_ k) W = i ∧ ansE W = 0 ∧ nextC (two_ k) W = ⟨4, [(k : Int), -1 - (k : Int)], i, 1⟩ := by
  have hl := (List.getElem?_eq_some_iff.1 h).1
  have hC : mayI W W.length ≠ [] := fun e => by rw [e] at hl; simp at hl
  have e : (two_ k).chosen W (mayI W W.length) = i := by
    unfold Ch.chosen
    rw [if_neg (show ¬ (two_ k).kind = 2 from (by decide : ¬ (4 : Int) = 2)), if_pos ⟨rfl, by simp [two_]⟩]
    have h2 : (two_ k).pick = (k : Int) := rfl
    rw [h2, fold_pos (by omega), Int.toNat_natCast, Nat.mod_eq_of_lt hl, List.getD_eq_getElem?_getD, h]
    rfl
  unfold ansI ansE nextC
  rw [if_neg hC, if_neg hC, if_neg hC]
  exact ⟨e, rfl, by unfold Ch.step; rw [e]; rfl⟩
theorem two_second {W : List Int} {k : Nat} {i : Int} (h : (mayI W W.length)[k]? = some i) : ansI ⟨4, [(k : Int), -1 - (k : Int)], i, 1⟩ W = i := by
  have hl := (List.getElem?_eq_some_iff.1 h).1
  have hC : mayI W W.length ≠ [] := fun e => by rw [e] at hl; simp at hl
  unfold ansI
  rw [if_neg hC]
  unfold Ch.chosen
  rw [if_neg (show ¬ (4 : Int) = 2 by decide), if_pos ⟨rfl, by simp⟩]
  have h2 : Ch.pick ⟨4, [(k : Int), -1 - (k : Int)], i, 1⟩ = -1 - (k : Int) := rfl
  rw [h2, fold_neg (by omega), show (-(-1 - (k : Int) + 1)).toNat = k by omega, Nat.mod_eq_of_lt hl, List.getD_eq_getElem?_getD, h]
  rfl
theorem mayI_place {W : List Int} {i : Nat} {y : Int} (h : W[i]? = some y) (hp : 0 < y) : (mayI W W.length)[(mayI W i).length]? = some (i : Int) := by
  have hil := (List.getElem?_eq_some_iff.1 h).1
  have e : ∀ d, ∃ R, mayI W (i + 1 + d) = mayI W i ++ (i : Int) :: R := by
    intro d
    induction d with
    | zero => exact ⟨[], mayI_yes h hp⟩
    | succ d ih =>
      obtain ⟨R, hR⟩ := ih
      cases hd : W[i + 1 + d]? with
      | none =>
        refine ⟨R, ?_⟩
        have : mayI W (i + 1 + d + 1) = mayI W (i + 1 + d) := by
          unfold mayI
          rw [List.range_succ, List.filter_append, List.map_append]
          simp [hd]
        rw [show i + 1 + (d + 1) = i + 1 + d + 1 by omega, this, hR]
      | some z =>
        by_cases hz : 0 < z
        · exact ⟨R ++ [((i + 1 + d : Nat) : Int)], by rw [show i + 1 + (d + 1) = i + 1 + d + 1 by omega, mayI_yes hd hz, hR]; simp⟩
        · exact ⟨R, by rw [show i + 1 + (d + 1) = i + 1 + d + 1 by omega, mayI_no hd hz, hR]⟩
  obtain ⟨R, hR⟩ := e (W.length - (i + 1))
  rw [show i + 1 + (W.length - (i + 1)) = W.length by omega] at hR
  rw [hR, List.getElem?_append_right (Nat.le_refl _)]
  simp
theorem ints_two {w : World} {g : Nat} {x y : Int} (h : w.heap[g]? = some (.cells #[.int .i64 x, .int .i64 y] 3 (0, 0))) : IntsAt w (.slice (some ⟨g, 0, none⟩) 2 2) [x, y] :=
  RowI.ints (L := [x, y]) h (P := [x, y]) (Nat.le_refl _) (fun _ _ h => h)
theorem Own.other {w wr w' : World} {b b2 : Nat} {v v2 : Value} {c c2 : Ch} (h : Own w wr b2 v2 c2) (ho : Own w wr b v c) (hk : Kept (fun k => k = b) wr w') (hne : b ≠ b2) : Own w w' b2 v2 c2 :=
  ⟨⟨by rw [hk.block b2 h.at_.lt (fun e => hne e.symm)]; exact h.at_.cells, own_kept h.at_.row hk (fun k hk e => by
      obtain ⟨_, _, cur, hc⟩ := own_type h.at_.row k hk
      rw [e, ho.at_.cells] at hc
      simp at hc), h.at_.low, h.at_.ok⟩, Kept.below h.low hk h.low.size (fun i e => by rw [e]; exact ho.at_.low)⟩
theorem all_ans {c : Ch} {W : List Int} (hC : mayI W W.length ≠ []) : ∃ a : Nat, ansI c W = (a : Int) ∧ ansE W = 0 ∧ ∃ y, W[a]? = some y ∧ 0 < y := by
  obtain ⟨a, ha, hal, hap⟩ := mayI_mem (c.chosen_mem (W := W) hC)
  refine ⟨a, by unfold ansI; rw [if_neg hC]; exact ha, by unfold ansE; rw [if_neg hC], W[a], List.getElem?_eq_getElem hal, ?_⟩
  rw [List.getD_eq_getElem?_getD, List.getElem?_eq_getElem hal] at hap
  exact hap
theorem next_count (c : Ch) (W : List Int) : (nextC c W).count ≤ c.count + 1 := by
  unfold nextC
  split
  · exact Nat.le_succ _
  · exact Nat.le_refl _
set_option maxHeartbeats 1600000 in
set_option maxRecDepth 100000 in
theorem policyAll_any {w : World} {v0 : Value} {W : List Int} {o : Kv} (hW : IntsIn w v0 W) (hn : -9223372036854775808 ≤ o.n ∧ o.n ≤ 9223372036854775807) (hP : IntsIn w o.v o.P) :
    Calls Try.prog 6 #[v0, .agg #[.int .i64 o.n, o.v]] w fun e w' => e = .returned (.bool true) ∧ Below w.heap.size w w' := by
  obtain ⟨kind, pv, P⟩ := o
  obtain ⟨a0, c0, rfl⟩ := hW.row.form
  obtain ⟨ap, cp, epv⟩ := hP.row.form
  dsimp only at hn hP epv ⊢
  subst epv
  have HB0 : Hid (Below w.heap.size w (w.alloc (.cells #[.int .i64 kind, .slice ap P.length cp] 28))) := below_new _ _
  have HSH := shown_any (w.alloc (.cells #[.int .i64 kind, .slice ap P.length cp] 28))
  have HW : Hid (IntsIn w (.slice a0 W.length c0) W) := hW
  have HP : Hid (IntsIn w (.slice ap P.length cp) P) := hP
  have hsz := hW.short
  clear hW hP
  by_cases hbig : (W.length : Int) > 46340
  · go_enter Try.func6, Try.ntmps6
    go_wp2_with (go_at_call 7; refine HSH.mono ?_; rintro e w1 ⟨rfl, hb⟩; have HB : Hid _ := hb; clear hb)
    go_ret
    exact ⟨rfl, HB0.out.trans (HB.out.mono HB0.out.size)⟩
  · go_enter Try.func6, Try.ntmps6
    go_wp2_with fail
    refine HSH.mono ?_
    rintro e w1 ⟨rfl, hb⟩
    have HB1 : Hid (Below w.heap.size w w1) := HB0.out.trans (hb.mono HB0.out.size)
    have HPB : Hid (w1.heap[w.heap.size]? = some (.cells #[.int .i64 kind, .slice ap P.length cp] 28 (0, 0))) := by
      rw [Hid, hb.block w.heap.size (by simp), heap_alloc_last]
    have HBT : Hid (Below (w.heap.size + 1) w1 w1) := Below.refl _ _
    clear hb HSH
    go_wp2_with fail
    go_loopw [6, 7] (fun t i wr => ∃ k : Nat, k ≤ W.length ∧ i = .int .i64 (k : Int) ∧ t = .int .i64 ((mayI W k).length : Int) ∧ Below w.heap.size w wr ∧ Below (w.heap.size + 1) w1 wr) (fun _ i _ => W.length - (intOf i).toNat)
    case atStart => exact ⟨0, Nat.zero_le _, rfl, rfl, HB1.out, HBT.out⟩
    case round =>
      obtain ⟨k, hk, rfl, rfl, hb, hbt⟩ := hrel
      have HB : Hid _ := hb
      have HBB : Hid _ := hbt
      have hml := mayI_len W k
      by_cases hlt : k < W.length
      · have hltz : (k : Int) < (W.length : Int) := by omega
        obtain ⟨y, hy⟩ : ∃ y, W[k]? = some y := ⟨_, List.getElem?_eq_getElem hlt⟩
        obtain ⟨gw, ow, ew, _, kw⟩ := ints_cell (HW.out.here hb).row hy
        subst ew
        by_cases hp : y ≤ 0
        · have HTK : Hid (mayI W (k + 1) = mayI W k) := mayI_no hy (by omega)
          clear hy hb hbt hml
          go_wp2_with fail
          exact ⟨⟨k + 1, by omega, by go_num, by rw [HTK.out], HB.out, HBB.out⟩, by simp [intOf]; omega⟩
        · have HTK : Hid (mayI W (k + 1) = mayI W k ++ [(k : Int)]) := mayI_yes hy (by omega)
          have HPL : Hid ((mayI W W.length)[(mayI W k).length]? = some (k : Int)) := mayI_place hy (by omega)
          obtain ⟨m, hm⟩ : ∃ m, m = (mayI W k).length := ⟨_, rfl⟩
          rw [← hm]
          have HM : Hid (m = (mayI W k).length) := hm
          have hmk : m ≤ 46340 := by omega
          have hw3 : IntKind.i64.wrap (-1 - (m : Int)) = -1 - (m : Int) := IntWalk.i64_in _ ⟨by omega, by omega⟩
          clear hy hb hbt hml hm
          have HNW := new_any (w := wr.alloc (.cells #[.int .i64 (m : Int), .int .i64 (-1 - (m : Int))] 3)) (kind := 4) (picks := [(m : Int), -1 - (m : Int)]) (ints_two (heap_alloc_last wr _)) (two_ok (by omega))
          have HA : Hid (Below w.heap.size w (wr.alloc (.cells #[.int .i64 (m : Int), .int .i64 (-1 - (m : Int))] 3))) := HB.out.alloc HB.out.size _
          have HAB : Hid (Below (w.heap.size + 1) w1 (wr.alloc (.cells #[.int .i64 (m : Int), .int .i64 (-1 - (m : Int))] 3))) := HBB.out.alloc (by have := HBB.out.size; have := HPB.out; have := (Array.getElem?_eq_some_iff.1 this).1; omega) _
          have HPT : Hid (w.heap.size + 1 ≤ w1.heap.size) := (Array.getElem?_eq_some_iff.1 HPB.out).1
          go_wp2_with fail
          refine Calls.mono HNW ?_
          rintro e w3 ⟨b, pv, rfl, hb3, hc3⟩
          have hok : okP 4 [(m : Int), -1 - (m : Int)] = true := rfl
          rw [hok, polE_ok hok, show ptrIf true b = .pointer (some ⟨b, 0, none⟩) from rfl]
          have hc := hc3 hok
          have HC3 : Hid (ChAt w.heap.size w3 b pv (two_ m)) := ⟨hc.cells, own_mono hc.row HA.out.size, Nat.le_trans HA.out.size hc.low, hc.ok⟩
          have hl3 := hc.low
          simp at hl3
          have HL3 : Hid (wr.heap.size + 1 ≤ b) := hl3
          clear hl3
          have HB3 : Hid (Below w.heap.size w w3) := HA.out.trans (hb3.mono HA.out.size)
          have HBB3 : Hid (Below (w.heap.size + 1) w1 w3) := HAB.out.trans (hb3.mono (by have := HBB.out.size; have := HPT.out; simp; omega))
          obtain ⟨q1, q2, q3⟩ := two_first (W := W) (k := m) (i := (k : Int)) (by rw [HM.out]; exact HPL.out)
          have q4 := two_second (W := W) (k := m) (i := (k : Int)) (by rw [HM.out]; exact HPL.out)
          have HQ4 : Hid _ := q4
          have HQ2 : Hid _ := q2
          have HCH := choose_any HC3.out (HW.out.here HB3.out).row (by omega) (by show (0 : Nat) < _; omega)
          have HBL : Hid (w.heap.size + 1 ≤ b) := by have := HBB.out.size; have := HPT.out; have := HL3.out; rw [Hid]; omega
          clear hb3 hc3 hok hc HNW q2 q4
          go_wp2_with fail
          refine Calls.mono HCH ?_
          rintro e w4 ⟨rfl, hc4, hk4⟩
          rw [q3] at hc4
          rw [q1, HQ2.out]
          have HC4 : Hid _ := hc4
          have HB4 : Hid (Below w.heap.size w w4) := Kept.below HB3.out hk4 HB3.out.size (fun i e => by have := HBL.out; omega)
          have HBB4 : Hid (Below (w.heap.size + 1) w1 w4) := Kept.below HBB3.out hk4 (by have := HBB3.out.size; have := HPT.out; omega) (fun i e => by have := HBL.out; omega)
          have HCH2 := choose_any HC4.out (HW.out.here HB4.out).row (by omega) (by show (1 : Nat) < _; omega)
          clear hc4 hk4 HCH q1 q3
          go_wp2_with fail
          refine Calls.mono HCH2 ?_
          rintro e w5 ⟨rfl, hc5, hk5⟩
          rw [HQ4.out, HQ2.out]
          have HB5 : Hid (Below w.heap.size w w5) := Kept.below HB4.out hk5 HB4.out.size (fun i e => by have := HBL.out; omega)
          have HBB5 : Hid (Below (w.heap.size + 1) w1 w5) := Kept.below HBB4.out hk5 (by have := HBB4.out.size; have := HPT.out; omega) (fun i e => by have := HBL.out; omega)
          have hkk : ((k : Int) != (k : Int)) = false := by simp
          clear hc5 hk5 HCH2
          go_wp2_with fail
          exact ⟨⟨k + 1, by omega, by go_num, by rw [HTK.out, List.length_append, HM.out]; go_num, HB5.out, HBB5.out⟩, by simp [intOf]; omega⟩
      · have hltz : ¬ (k : Int) < (W.length : Int) := by omega
        obtain ⟨M, hM⟩ : ∃ M, M = (mayI W k).length := ⟨_, rfl⟩
        rw [← hM]
        have HM : Hid (M = (mayI W W.length).length) := by rw [Hid, hM, show k = W.length by omega]
        have HPT : Hid (w.heap.size + 1 ≤ w1.heap.size) := (Array.getElem?_eq_some_iff.1 HPB.out).1
        have hpx : wr.heap[w.heap.size]? = some (.cells #[.int .i64 kind, .slice ap P.length cp] 28 (0, 0)) := by rw [hbt.block _ (by omega)]; exact HPB.out
        have p0 : wr.cell? ⟨w.heap.size, 0, none⟩ = some (.int .i64 kind) := by rw [row_cell hpx]; rfl
        have p1 : wr.cell? ⟨w.heap.size, 1, none⟩ = some (.slice ap P.length cp) := by rw [row_cell hpx]; rfl
        have HNW := new_any (w := wr) (kind := kind) (HP.out.here hb).row HP.out.wf
        have HPX : Hid _ := hpx
        clear hM hml hb hbt hpx
        obtain ⟨wl, rfl⟩ : ∃ wl, wl = wr := ⟨_, rfl⟩
        go_wp2_with fail
        refine Calls.mono HNW ?_
        rintro e w3 ⟨b, pv, rfl, hb3, hc3⟩
        have hpx3 : w3.heap[w.heap.size]? = some (.cells #[.int .i64 kind, .slice ap P.length cp] 28 (0, 0)) := by rw [hb3.block _ (by have := HBB.out.size; have := HPT.out; omega)]; exact HPX.out
        have p03 : w3.cell? ⟨w.heap.size, 0, none⟩ = some (.int .i64 kind) := by rw [row_cell hpx3]; rfl
        have p13 : w3.cell? ⟨w.heap.size, 1, none⟩ = some (.slice ap P.length cp) := by rw [row_cell hpx3]; rfl
        have HB3 : Hid (Below w.heap.size w w3) := HB.out.trans (hb3.mono HB.out.size)
        have HN3 : Hid (Below wl.heap.size wl w3) := hb3
        have HC3 : Hid (okP kind P = true → ChAt wl.heap.size w3 b pv ⟨kind, P, -1, 0⟩) := hc3
        have HPX3 : Hid _ := hpx3
        have HNW2 := new_any (w := w3) (kind := kind) (HP.out.here HB3.out).row HP.out.wf
        clear HNW hb3 hc3 hpx3 p0 p1
        go_wp2_with fail
        refine Calls.mono HNW2 ?_
        rintro e w4 ⟨b2, pv2, rfl, hb4, hc4⟩
        have hpx4 : w4.heap[w.heap.size]? = some (.cells #[.int .i64 kind, .slice ap P.length cp] 28 (0, 0)) := by rw [hb4.block _ (by have := HBB.out.size; have := HPT.out; have := HN3.out.size; omega)]; exact HPX3.out
        have p04 : w4.cell? ⟨w.heap.size, 0, none⟩ = some (.int .i64 kind) := by rw [row_cell hpx4]; rfl
        have p14 : w4.cell? ⟨w.heap.size, 1, none⟩ = some (.slice ap P.length cp) := by rw [row_cell hpx4]; rfl
        have HB4 : Hid (Below w.heap.size w w4) := HB3.out.trans (hb4.mono HB3.out.size)
        have HN4 : Hid (Below w3.heap.size w3 w4) := hb4
        have HC4 : Hid (okP kind P = true → ChAt w3.heap.size w4 b2 pv2 ⟨kind, P, -1, 0⟩) := hc4
        have HCK := check_any (w := w4) (kind := kind) (a := ap) (n := cp) (picks := P)
        clear HNW2 hb4 hc4 hpx4 p03 p13
        cases hok : okP kind P with
        | false =>
          rw [polE_bad hok] at HCK ⊢
          rw [show ptrIf false b = .pointer none from rfl, show ptrIf false b2 = .pointer none from rfl]
          clear hok
          go_wp2_with fail
          refine Calls.mono HCK ?_
          rintro e w5 ⟨rfl, hb5⟩
          have HB5 : Hid (Below w.heap.size w w5) := HB4.out.trans (hb5.mono HB4.out.size)
          clear hb5 HCK
          go_wp2_with fail
          go_ret
          exact ⟨rfl, HB5.out⟩
        | true =>
          rw [polE_ok hok] at HCK ⊢
          rw [show ptrIf true b = .pointer (some ⟨b, 0, none⟩) from rfl, show ptrIf true b2 = .pointer (some ⟨b2, 0, none⟩) from rfl]
          have HOK : Hid _ := hok
          clear hok
          go_wp2_with fail
          refine Calls.mono HCK ?_
          rintro e w5 ⟨rfl, hb5⟩
          have HB5 : Hid (Below w.heap.size w w5) := HB4.out.trans (hb5.mono HB4.out.size)
          have h1 := HC3.out HOK.out
          have h2 := HC4.out HOK.out
          have hne : b ≠ b2 := fun e => by have := h1.lt; have := h2.low; omega
          have k1 : Own w w5 b pv ⟨kind, P, -1, 0⟩ := ⟨(ChT.here ⟨h1.cells, own_mono h1.row HB.out.size, Nat.le_trans HB.out.size h1.low, h1.ok⟩ HN4.out).here hb5, HB5.out⟩
          have k2 : Own w w5 b2 pv2 ⟨kind, P, -1, 0⟩ := ⟨ChT.here ⟨h2.cells, own_mono h2.row HB3.out.size, Nat.le_trans HB3.out.size h2.low, h2.ok⟩ hb5, HB5.out⟩
          have HK1 : Hid _ := k1
          have HK2 : Hid _ := k2
          have HNE : Hid (b ≠ b2) := hne
          clear hb5 HCK h1 h2 hne k1 k2 p04 p14
          go_wp2_with fail
          go_loopw [18] (fun i wr => ∃ (t : Nat) (cc : Ch), t ≤ 5 ∧ i = .int .i64 (t : Int) ∧ Own w wr b pv cc ∧ Own w wr b2 pv2 cc ∧ cc.count ≤ t) (fun i _ => 5 - (intOf i).toNat)
          case atStart => exact ⟨0, _, by omega, rfl, HK1.out, HK2.out, Nat.le_refl _⟩
          case round =>
            obtain ⟨t, cc, ht, rfl, o1, o2, hcn⟩ := hrel
            have HO1 : Hid _ := o1
            have HO2 : Hid _ := o2
            have HCN : Hid (cc.count ≤ t) := hcn
            by_cases hlt5 : t < 5
            · have htz : (t : Int) < 5 := by omega
              have HCH := choose_any o1.at_ (HW.out.here o1.low).row (by omega) (by omega)
              clear o1 o2 hcn
              go_wp2_with fail
              refine Calls.mono HCH ?_
              rintro e w6 ⟨rfl, hc6, hk6⟩
              have HP1 : Hid _ := HO1.out.mk' hc6 hk6
              have o26 := HO2.out.other HO1.out hk6 HNE.out
              have HP2 : Hid _ := o26
              have HCH2 := choose_any o26.at_ (HW.out.here o26.low).row (by omega) (by have := HCN.out; omega)
              clear hc6 hk6 o26 HCH
              go_wp2_with fail
              refine Calls.mono HCH2 ?_
              rintro e w7 ⟨rfl, hc7, hk7⟩
              have HQ2 : Hid _ := HP2.out.mk' hc7 hk7
              have HQ1 : Hid (Own w w7 b pv (nextC cc W)) := HP1.out.other HP2.out hk7 (fun e => HNE.out e.symm)
              have HNC : Hid ((nextC cc W).count ≤ t + 1) := Nat.le_trans (next_count _ _) (Nat.succ_le_succ HCN.out)
              clear hc7 hk7 HCH2
              by_cases hM0 : M = 0
              · have hC : mayI W W.length = [] := List.eq_nil_of_length_eq_zero (by rw [← HM.out]; exact hM0)
                have hE : ansE W = 162 := by unfold ansE; rw [if_pos hC]
                have hI : ansI cc W = 0 := by unfold ansI; rw [if_pos hC]
                rw [hE, hI]
                have hMz : ¬ (M : Int) > 0 := by omega
                have hMz2 : ((M : Int) == 0) = true := by rw [beq_iff_eq]; omega
                clear hC hE hI hM0
                go_wp2_with fail
                exact ⟨⟨t + 1, _, by omega, by go_num, HQ1.out, HQ2.out, HNC.out⟩, by simp [intOf]; omega⟩
              · have hC : mayI W W.length ≠ [] := fun e => hM0 (by rw [HM.out, e]; rfl)
                obtain ⟨a, hI, hE, y, hy, hyp⟩ := all_ans (c := cc) hC
                have hal := (List.getElem?_eq_some_iff.1 hy).1
                obtain ⟨gw, ow, ew, _, kw⟩ := ints_cell (HW.out.here HQ1.out.low).row hy
                subst ew
                rw [hE, hI]
                have hMz : (M : Int) > 0 := by omega
                have hMz2 : ((M : Int) == 0) = false := by rw [beq_eq_false_iff_ne]; omega
                have haz : (a : Int) < (W.length : Int) := by omega
                have haz2 : ¬ (a : Int) ≥ (W.length : Int) := by omega
                have haz3 : ¬ (a : Int) < 0 := by omega
                have hyz : ¬ y ≤ 0 := by omega
                have haa : ((a : Int) != (a : Int)) = false := by simp
                clear hC hE hI hy hM0
                go_wp2_with fail
                exact ⟨⟨t + 1, _, by omega, by go_num, HQ1.out, HQ2.out, HNC.out⟩, by simp [intOf]; omega⟩
            · have htz : ¬ (t : Int) < 5 := by omega
              clear o1 o2 hcn
              go_wp2_with fail
              go_ret
              exact ⟨rfl, HO1.out.low⟩
end Go.Proofs.Ytejenfcfngjaaaa
