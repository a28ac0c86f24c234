/- Check, New, Choose, Count, Settles: the program's. -/
import Derived.Test.YtejenfcfngjaaaaPicks
namespace Go.Proofs.Ytejenfcfngjaaaa
open Go.RowKit

set_option maxHeartbeats 1600000 in
set_option maxRecDepth 100000 in
theorem check_any {w : World} {kind : Int} {a : Option Addr} {n : Nat} {picks : List Int} :
    Calls Try.prog 9 #[.agg #[.int .i64 kind, .slice a picks.length n]] w fun e w' => e = .returned (.int .i64 (polE kind picks)) ∧ Below w.heap.size w w' := by
  have HW1 : Hid (Below w.heap.size w (w.alloc (.cells #[.int .i64 kind, .slice a picks.length n] 28))) := below_new _ _
  have q1 := eq_nil_nil
  have q2 := eq_fn_nil
  have HRU := rule_any (w.alloc (.cells #[.int .i64 kind, .slice a picks.length n] 28)) kind
  by_cases hk : kind < 1 ∨ 4 < kind
  · rw [rule_nil hk] at HRU
    have HP : Hid (polE kind picks = 161) := by
      unfold Hid polE okP
      rw [if_neg]
      simp only [Bool.and_eq_true, decide_eq_true_eq]
      omega
    rw [HP.out]
    clear HP
    have hk4 : (kind == 4) = false := by rw [beq_eq_false_iff_ne]; omega
    clear hk
    go_enter Try.func9, Try.ntmps9
    go_wp2_with (go_at_call 19; refine HRU.mono ?_; rintro e w1 ⟨rfl, hb⟩; have HB1 : Hid _ := hb; clear hb)
    go_ret
    exact ⟨rfl, HW1.out.trans (HB1.out.mono HW1.out.size)⟩
  · obtain ⟨N, hN⟩ := rule_some (k := kind) (by omega) (by omega)
    rw [hN] at HRU
    clear hN
    have HC : Hid (∀ w1, Below (w.heap.size + 1) (w.alloc (.cells #[.int .i64 kind, .slice a picks.length n] 28)) w1 → w1.cell? ⟨w.heap.size, 1, none⟩ = some (.slice a picks.length n)) := fun w1 hb => by
      rw [hb.cell (p := ⟨w.heap.size, 1, none⟩) (by simp), row_cell (heap_alloc_last w _)]
      rfl
    by_cases h4 : kind = 4
    · subst h4
      by_cases hl : picks.length > 65536
      · have hlz : (picks.length : Int) > 65536 := by omega
        have HP : Hid (polE 4 picks = 161) := by
          unfold Hid polE okP
          rw [if_neg]
          simp only [Bool.and_eq_true, Bool.or_eq_true, decide_eq_true_eq]
          omega
        rw [HP.out]
        clear HP hk
        go_enter Try.func9, Try.ntmps9
        go_wp2_with (go_at_call 19; refine HRU.mono ?_; rintro e w1 ⟨rfl, hb⟩; have HB1 : Hid _ := hb; have hc1 := HC.out w1 (by simpa using hb); clear hb)
        go_ret
        exact ⟨rfl, HW1.out.trans (HB1.out.mono HW1.out.size)⟩
      · have hlz : ¬ (picks.length : Int) > 65536 := by omega
        have HP : Hid (polE 4 picks = 0) := by
          unfold Hid polE okP
          have hx : decide (picks.length ≤ 65536) = true := decide_eq_true (by omega)
          rw [if_pos]
          rw [hx]
          simp
        rw [HP.out]
        clear HP hk
        go_enter Try.func9, Try.ntmps9
        go_wp2_with (go_at_call 19; refine HRU.mono ?_; rintro e w1 ⟨rfl, hb⟩; have HB1 : Hid _ := hb; have hc1 := HC.out w1 (by simpa using hb); clear hb)
        go_ret
        exact ⟨rfl, HW1.out.trans (HB1.out.mono HW1.out.size)⟩
    · have hk4 : (kind == 4) = false := by rw [beq_eq_false_iff_ne]; exact h4
      by_cases hl : picks.length > 0
      · have hlz : (picks.length : Int) > 0 := by omega
        have HP : Hid (polE kind picks = 161) := by
          unfold Hid polE okP
          rw [if_neg]
          simp only [Bool.and_eq_true, Bool.or_eq_true, decide_eq_true_eq]
          omega
        rw [HP.out]
        clear HP hk
        go_enter Try.func9, Try.ntmps9
        go_wp2_with (go_at_call 19; refine HRU.mono ?_; rintro e w1 ⟨rfl, hb⟩; have HB1 : Hid _ := hb; have hc1 := HC.out w1 (by simpa using hb); clear hb)
        go_ret
        exact ⟨rfl, HW1.out.trans (HB1.out.mono HW1.out.size)⟩
      · have hlz : ¬ (picks.length : Int) > 0 := by omega
        have HP : Hid (polE kind picks = 0) := by
          unfold Hid polE okP
          rw [if_pos]
          simp only [Bool.and_eq_true, Bool.or_eq_true, decide_eq_true_eq]
          omega
        rw [HP.out]
        clear HP hk
        go_enter Try.func9, Try.ntmps9
        go_wp2_with (go_at_call 19; refine HRU.mono ?_; rintro e w1 ⟨rfl, hb⟩; have HB1 : Hid _ := hb; have hc1 := HC.out w1 (by simpa using hb); clear hb)
        go_ret
        exact ⟨rfl, HW1.out.trans (HB1.out.mono HW1.out.size)⟩

/-- What New leaves. -/
def ptrIf (ok : Bool) (b : Nat) : Value := .pointer (if ok = true then some ⟨b, 0, none⟩ else none)
structure NewPost (T : TypeId) (w : World) (kind : Int) (picks : List Int) (e : Ending) (w' : World) : Prop where
  is : ∃ b v, e = .returned (.tuple #[ptrIf (okP kind picks) b, .int .i64 (polE kind picks)]) ∧ Below w.heap.size w w' ∧ (okP kind picks = true → ChT T w.heap.size w' b v ⟨kind, picks, -1, 0⟩)
theorem polE_ok {kind : Int} {picks : List Int} (h : okP kind picks = true) : polE kind picks = 0 := by unfold polE; rw [if_pos h]
theorem polE_bad {kind : Int} {picks : List Int} (h : okP kind picks = false) : polE kind picks = 161 := by unfold polE; rw [if_neg (by simp [h])]
theorem new_ok_ok {kind : Int} {picks : List Int} (h : okP kind picks = true) (hr : ∀ p ∈ picks, -9223372036854775808 ≤ p ∧ p ≤ 9223372036854775807) : Ch.Ok ⟨kind, picks, -1, 0⟩ := ⟨h, Int.le_refl _, by show (-1 : Int) ≤ _; omega, Nat.zero_le _, hr⟩
set_option maxHeartbeats 1600000 in
set_option maxRecDepth 100000 in
theorem new_any {w : World} {kind : Int} {pv : Value} {picks : List Int} (hp : IntsAt w pv picks) (hr : ∀ p ∈ picks, -9223372036854775808 ≤ p ∧ p ≤ 9223372036854775807) :
    Calls Try.prog 10 #[.agg #[.int .i64 kind, pv]] w fun e w' => NewPost 56 w kind picks e w' := by
  obtain ⟨a, n, rfl⟩ := hp.form
  have HB0 : Hid (Below w.heap.size w (w.alloc (.cells #[.int .i64 kind, .slice a picks.length n] 28))) := below_new _ _
  have HCK := check_any (w := w.alloc (.cells #[.int .i64 kind, .slice a picks.length n] 28)) (kind := kind) (a := a) (n := n) (picks := picks)
  have HP : Hid (IntsAt w (.slice a picks.length n) picks) := hp
  have HR : Hid _ := hr
  clear hp hr
  cases hok : okP kind picks with
  | false =>
    rw [polE_bad hok] at HCK
    have HOK : Hid _ := hok
    clear hok
    go_enter Try.func10, Try.ntmps10
    go_wp2_with (go_at_call 9; refine HCK.mono ?_; rintro e w1 ⟨rfl, hb⟩; have HB1 : Hid _ := hb; clear hb)
    go_ret2
    exact ⟨0, .nilFunc, by rw [polE_bad HOK.out, HOK.out]; rfl, HB0.out.trans (HB1.out.mono HB0.out.size), fun h => by rw [HOK.out] at h; cases h⟩
  | true =>
    rw [polE_ok hok] at HCK
    have HOK : Hid _ := hok
    have hsh := (new_ok_ok hok HR.out).short
    have HSH : Hid (picks.length ≤ 65536) := hsh
    clear hok hsh
    go_enter Try.func10, Try.ntmps10
    go_wp2_with fail
    refine HCK.mono ?_
    rintro e w1 ⟨rfl, hb⟩
    have hb1 : Below (w.heap.size + 1) (w.alloc (.cells #[.int .i64 kind, .slice a picks.length n] 28)) w1 := by simpa using hb
    have HB1 : Hid _ := hb1
    clear hb1
    have hx1 : w1.heap[w.heap.size]? = some (.cells #[.int .i64 kind, .slice a picks.length n] 28 (0, 0)) := by rw [HB1.out.block _ (by simp), heap_alloc_last]
    have c0 : w1.cell? ⟨w.heap.size, 0, none⟩ = some (.int .i64 kind) := by rw [row_cell hx1]; rfl
    have c1 : w1.cell? ⟨w.heap.size, 1, none⟩ = some (.slice a picks.length n) := by rw [row_cell hx1]; rfl
    have f1 : w1.frozen? ⟨w.heap.size, 1, none⟩ = false := row_frozen hx1 1
    have hz1 : w.heap.size + 1 ≤ w1.heap.size := by have := HB1.out.size; simpa using this
    have HX1 : Hid _ := hx1
    have HPP : Hid (IntsAt w1 (.slice a picks.length n) picks) := HP.out.here (HB0.out.trans (HB1.out.mono (by simp)))
    have HCL := clone_any HPP.out (by have := HSH.out; omega)
    clear hb hx1 HCK
    go_wp2_with fail
    refine HCL.mono ?_
    rintro e w2 ⟨v2, rfl, hn2, hb2⟩
    obtain ⟨a2, n2, rfl⟩ := own_slice hn2
    have hx2 : w2.heap[w.heap.size]? = some (.cells #[.int .i64 kind, .slice a picks.length n] 28 (0, 0)) := by rw [hb2.block _ (by omega)]; exact HX1.out
    have d0 : w2.cell? ⟨w.heap.size, 0, none⟩ = some (.int .i64 kind) := by rw [row_cell hx2]; rfl
    have d1 : w2.cell? ⟨w.heap.size, 1, none⟩ = some (.slice a picks.length n) := by rw [row_cell hx2]; rfl
    have f2 : w2.frozen? ⟨w.heap.size, 1, none⟩ = false := row_frozen hx2 1
    have HN2 : Hid _ := hn2
    have HB2 : Hid _ := hb2
    have hz2 := hb2.size
    clear hn2 hb2 hx2 HCL
    go_wp2_with fail
    have hne : ∀ k, (Value.slice a2 picks.length n2).ownBlock = some k → ¬ k = w.heap.size := fun k hk => by
      have := (own_type HN2.out k hk).2.1
      omega
    refine bodyPost_ret (v := .tuple #[.pointer (some ⟨w2.heap.size, 0, none⟩), .int .i64 0]) (by simp [results, Try.results10, go_sem]) rfl ⟨w2.heap.size, .slice a2 picks.length n2, ?_, ?_, fun _ => ⟨?_, ?_, ?_, new_ok_ok HOK.out HR.out⟩⟩
    · rw [polE_ok HOK.out, HOK.out]; rfl
    · exact ((HB0.out.trans (HB1.out.mono (by simp))).trans (HB2.out.mono (by omega))).setCell (Nat.le_refl _) _ |>.alloc (by simp; omega) _
    · have := heap_alloc_last (w2.setCell ⟨w.heap.size, 1, none⟩ (.slice a2 picks.length n2)) (.cells #[.int .i64 kind, .slice a2 picks.length n2, .int .i64 (-1), .int .i64 0] 56)
      simpa [chs] using this
    · exact own_mono (own_here (own_kept HN2.out (setCell_kept _) hne) (below_new _ _)) (by omega)
    · omega
end Go.Proofs.Ytejenfcfngjaaaa
