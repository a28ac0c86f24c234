/- The document's New and Choose. -/
import Derived.Test.YtejenfcfngjaaaaRefP
namespace Go.Proofs.Ytejenfcfngjaaaa
open Go.RowKit

/-- Onto a new, empty row, as a step of a region that draws its order. -/
theorem step_copyI {w : World} {ops : Array Oper} {o : Oper} {a : Act} {K : Act → World → Prop} {Q : Exit → Act → World → Prop} {E : Prop} (hgd : o.guard = none) (s x : Operand)
    (ho : o.op = .call { callee := .builtin .append, args := #[s, x], argTypes := #[26, 26] }) (base : Nat)
    (g : Nat) (hs : a.eval s = .slice (some ⟨g, 0, none⟩) 0 0) (hown : w.ownsRow base 3 1 (.slice (some ⟨g, 0, none⟩) 0 0) 0 [])
    (lv : Value) (xs : List Int) (hx : a.eval x = lv) (hb : IntsAt w lv xs) (hlen : xs.length * 8 ≤ 140737488355328) (hbase : base ≤ w.heap.size)
    (h : ∀ ad n c w', n = xs.length → NewI base w' (.slice ad n c) xs → w.grownBy w' (some g) → K (a.put o.dst (.slice ad n c)) w') :
    if Region.wanted o (yielded ops a.tmps) = true then Oper.wp Try.prog o a w K Q else E := by
  have hw : Region.wanted o (yielded ops a.tmps) = true := by simp [Region.wanted, hgd]
  rw [if_pos hw]
  obtain ⟨i0, hi, hz0, hz1, hz2⟩ := infoI'
  obtain ⟨⟨ao, c, rfl, hc, hn, hcell⟩, hl⟩ := hb
  cases ao with
  | none =>
    obtain rfl := hn rfl
    have h0 : xs = [] := List.eq_nil_of_length_eq_zero (by simpa using hc)
    subst h0
    have hrun := run_append_owned_none (P := Try.prog) (w := w) base 26 o.type 3 i0 1 Try.underlying26 hi _ 0 _ hown
    have hx' : a.eval x = .slice none 0 0 := hx
    have := h (some ⟨g, 0, none⟩) 0 0 w rfl hown ⟨rfl, rfl, rfl, Nat.le_refl _, fun _ _ _ => rfl⟩
    unfold Oper.wp
    simp [execOp, ho, resolve, invoke, builtin, hs, hx', hrun, Result.andThen]
    exact this
  | some ad =>
    refine wp_append_own w s x 26 ho base 3 i0 (.int .i64 0) 1 8 Try.underlying26 hi hz0 hz1 hz2 rfl (by decide) _ 0 _ hs hown ad xs.length c (xs.map encI) hx (by simp) ?_ (fun u hu => by obtain ⟨p, _, rfl⟩ := List.mem_map.1 hu; rfl) (by unfold maxLen; omega) (by omega) hbase ?_
    · intro j u hj
      obtain ⟨g', off, e1, _, hc'⟩ := hcell j u hj
      cases e1
      rw [add_at]
      exact hc'
    · intro v' w' h1 h2 _
      simp only [Nat.zero_add, List.nil_append] at h1
      obtain ⟨ad', c', rfl⟩ := own_slice h1
      exact h ad' _ c' w' rfl h1 h2
set_option maxHeartbeats 1600000 in
set_option maxRecDepth 100000 in
theorem rnew_any {w : World} {kind : Int} {pv : Value} {picks : List Int} (hp : IntsAt w pv picks) (hr : ∀ p ∈ picks, -9223372036854775808 ≤ p ∧ p ≤ 9223372036854775807) :
    Calls Try.prog 11 #[.agg #[.int .i64 kind, pv]] w fun e w' => NewPost 48 w kind picks e w' := by
  obtain ⟨a, n, rfl⟩ := hp.form
  have HB0 : Hid (Below w.heap.size w (w.alloc (.cells #[.int .i64 kind, .slice a picks.length n] 28))) := below_new _ _
  have HCK := rcheck_any (w := w.alloc (.cells #[.int .i64 kind, .slice a picks.length n] 28)) (kind := kind) (a := a) (n := n) (picks := picks)
  have HP : Hid (IntsAt w (.slice a picks.length n) picks) := hp
  have HR : Hid _ := hr
  clear hp hr
  cases hok : okP kind picks with
  | false =>
    rw [polE_bad hok] at HCK
    have HOK : Hid _ := hok
    clear hok
    go_enter Try.func11, Try.ntmps11
    go_wp2_with (go_at_call 21; refine HCK.mono ?_; rintro e w1 ⟨rfl, hb⟩; have HB1 : Hid _ := hb; clear hb)
    go_ret2
    exact ⟨0, .nilFunc, by rw [polE_bad HOK.out, HOK.out]; rfl, HB0.out.trans (HB1.out.mono HB0.out.size), fun h => by rw [HOK.out] at h; cases h⟩
  | true =>
    rw [polE_ok hok] at HCK
    have HOK : Hid _ := hok
    have hsh := (new_ok_ok hok HR.out).short
    have HSH : Hid (picks.length ≤ 65536) := hsh
    clear hok hsh
    go_enter Try.func11, Try.ntmps11
    go_wp2_with fail
    refine HCK.mono ?_
    rintro e w1 ⟨rfl, hb⟩
    have hb1 : Below (w.heap.size + 1) (w.alloc (.cells #[.int .i64 kind, .slice a picks.length n] 28)) w1 := by simpa using hb
    have HB1 : Hid _ := hb1
    clear hb1
    have hx1 : w1.heap[w.heap.size]? = some (.cells #[.int .i64 kind, .slice a picks.length n] 28 (0, 0)) := by rw [HB1.out.block _ (by simp), heap_alloc_last]
    have c0 : w1.cell? ⟨w.heap.size, 0, none⟩ = some (.int .i64 kind) := by rw [row_cell hx1]; rfl
    have c1 : w1.cell? ⟨w.heap.size, 1, none⟩ = some (.slice a picks.length n) := by rw [row_cell hx1]; rfl
    have hz1 : w.heap.size + 1 ≤ w1.heap.size := by have := HB1.out.size; simpa using this
    have HPP : Hid (IntsAt w1 (.slice a picks.length n) picks) := HP.out.here (HB0.out.trans (HB1.out.mono (by simp)))
    have HC : Hid (w1.cell? ⟨w.heap.size, 0, none⟩ = some (.int .i64 kind) ∧ w1.cell? ⟨w.heap.size, 1, none⟩ = some (.slice a picks.length n) ∧ w.heap.size < w1.heap.size) := ⟨c0, c1, hz1⟩
    clear hb hx1 HCK
    go_wp2_with fail
    obtain ⟨w3, hw3⟩ : ∃ w3, w3 = (w1.alloc (.cells #[] 3)).drew := ⟨_, rfl⟩
    have HW3 : Hid (w3 = (w1.alloc (.cells #[] 3)).drew) := hw3
    have HB3 : Hid (Below w1.heap.size w1 w3) := by rw [hw3]; exact (below_new w1 _).drew
    have HE3 : Hid (w3.ownsRow w1.heap.size 3 1 (.slice (some ⟨w1.heap.size, 0, none⟩) 0 0) 0 []) := by rw [hw3]; exact World.ownsRow_made w1 #[] 0 (Nat.le_refl _) (Nat.zero_le _) rfl
    have HI3 : Hid (IntsAt w3 (.slice a picks.length n) picks) := HPP.out.here HB3.out
    clear hw3
    go_region_held_law (fun W' => W'.cell? ⟨w.heap.size, 0, none⟩ = some (.int .i64 kind) ∧ W'.cell? ⟨w.heap.size, 1, none⟩ = some (.slice a picks.length n)) (first | go_keep | assumption | (refine ⟨?_, ?_⟩ <;> assumption)) (
      first | (rw [← HW3.out]
               refine step_copyI (by rfl) _ _ (by rfl) w1.heap.size w1.heap.size (by rfl) (by exact HE3.out) (.slice a picks.length n) picks (by rfl) (by exact HI3.out) (by have := HSH.out; omega) (by exact Below.size HB3.out) ?_
               intro ad nu cu w4 hnu hn4 hg4
               have HNU : Hid (nu = picks.length) := hnu
               have HB4 : Hid (Below w1.heap.size w1 w4) := HB3.out.trans (grown_below HE3.out hg4 (Below.size HB3.out))
               have HN4 : Hid (NewI w1.heap.size w4 (.slice ad nu cu) picks) := hn4
               have k1 : w4.cell? ⟨w.heap.size, 0, none⟩ = some (.int .i64 kind) := (HB4.out.cell (p := ⟨w.heap.size, 0, none⟩) HC.out.2.2).trans HC.out.1
               have k2 : w4.cell? ⟨w.heap.size, 1, none⟩ = some (.slice a picks.length n) := (HB4.out.cell (p := ⟨w.heap.size, 1, none⟩) HC.out.2.2).trans HC.out.2.1
               clear hnu hn4 hg4))
    go_wp2_with fail
    refine bodyPost_ret (v := .tuple #[.pointer (some ⟨w4.heap.size, 0, none⟩), .int .i64 0]) (by simp [results, Try.results11, go_sem]) rfl ⟨w4.heap.size, .slice ad nu cu, ?_, ?_, fun _ => ⟨?_, ?_, ?_, new_ok_ok HOK.out HR.out⟩⟩
    · rw [polE_ok HOK.out, HOK.out]; rfl
    · exact ((HB0.out.trans (HB1.out.mono (by simp))).trans (HB4.out.mono (by omega))).alloc (by have := HB4.out.size; omega) _
    · have := heap_alloc_last w4 (.cells #[.int .i64 kind, .slice ad nu cu, .int .i64 (-1), .int .i64 0] 48)
      simpa [chs] using this
    · exact own_mono (own_here HN4.out (below_new _ _)) (by omega)
    · have := HB4.out.size
      omega
set_option maxHeartbeats 1600000 in
set_option maxRecDepth 100000 in
theorem rchoose_any {base b : Nat} {w : World} {v pv : Value} {c : Ch} {W : List Int} (h : RefAt base w b pv c) (hv : IntsAt w v W) (hs : W.length * 8 ≤ 140737488355328) (hc : c.count < 4000000000000000000) :
    Calls Try.prog 15 #[.pointer (some ⟨b, 0, none⟩), v] w fun e w' => ChosenPost 48 base w b pv c W e w' := by
  have HCA := may_any hv hs
  obtain ⟨av, nv, rfl⟩ := hv.form
  have HV : Hid (IntsAt w (.slice av W.length nv) W) := hv
  have HH : Hid _ := h
  have HA : Hid (Cands W (mayI W W.length)) := cands_may W
  clear hv h
  by_cases hm : mayI W W.length = []
  · have HM : Hid _ := hm
    rw [hm] at HCA
    clear hm
    go_enter Try.func15, Try.ntmps15
    go_wp2_with fail
    refine HCA.mono ?_
    rintro e w1 ⟨v1, rfl, hn, hb⟩
    obtain ⟨a1, n1, rfl⟩ := own_slice hn
    have HB : Hid _ := hb
    clear hn hb HCA
    go_wp2_with fail
    go_ret2
    exact ⟨by unfold ansI ansE; rw [if_pos HM.out, if_pos HM.out]; rfl, by unfold nextC; rw [if_pos HM.out]; exact HH.out.here HB.out, Kept.of_below HB.out⟩
  · have hl : 0 < (mayI W W.length).length := List.length_pos_iff.2 hm
    have hlz : (((mayI W W.length).length : Int) == 0) = false := by rw [beq_eq_false_iff_ne]; omega
    have HM : Hid _ := hm
    have HOK : Hid _ := HH.out.ok.step hm hc hs
    clear hm
    go_enter Try.func15, Try.ntmps15
    go_wp2_with fail
    refine HCA.mono ?_
    rintro e w1 ⟨v1, rfl, hn, hb⟩
    obtain ⟨a1, n1, rfl⟩ := own_slice hn
    have hh1 := HH.out.here hb
    have hCN := rchosen_any hh1 (HV.out.here hb) (RowAt.own hn) HA.out HM.out (by omega)
    have HH1 : Hid _ := hh1
    have HB : Hid _ := hb
    have HCN : Hid _ := hCN
    clear hn hb HCA hh1 hCN
    go_wp2_with fail
    refine Calls.mono HCN.out ?_
    rintro e w3 ⟨rfl, hb3⟩
    have hh3 := HH1.out.here hb3
    have HK : Hid (Below w.heap.size w w3) := HB.out.trans (hb3.mono HB.out.size)
    have d2 : w3.cell? ⟨b, 2, none⟩ = some (.int .i64 c.last) := hh3.cell 2
    have d3 : w3.cell? ⟨b, 3, none⟩ = some (.int .i64 (c.count : Int)) := hh3.cell 3
    have f2 : w3.frozen? ⟨b, 2, none⟩ = false := row_frozen hh3.cells 2
    have f3 : w3.frozen? ⟨b, 3, none⟩ = false := row_frozen hh3.cells 3
    have HH3 : Hid _ := hh3
    have HX : Hid (∃ x, x = c.chosen W (mayI W W.length)) := ⟨_, rfl⟩
    obtain ⟨x, hx⟩ := HX.out
    rw [← hx]
    have HXX : Hid _ := hx
    have hcz : (c.count : Int) < 4000000000000000000 := by omega
    clear hh3 hb3 hx HX HCN
    go_wp2_with fail
    go_ret2
    refine ⟨?_, ?_, ?_⟩
    · unfold ansI ansE
      rw [if_neg HM.out, if_neg HM.out, HXX.out]
      rfl
    · unfold nextC
      rw [if_neg HM.out, HXX.out]
      exact HH3.out.stepped (by decide) HOK.out
    · exact (Kept.of_below HK.out).trans ((setCell_kept _).trans (setCell_kept _) (fun _ _ => id)) (fun _ _ => id)
end Go.Proofs.Ytejenfcfngjaaaa
