/- The law's weight and weights: how many bytes messages have. -/
import Derived.Test.YtkjjgbaoicjbaabMsgs
namespace Go.Proofs.Ytkjjgbaoicjbaab
open Go.RowKit

set_option maxHeartbeats 800000 in
set_option maxRecDepth 100000 in
theorem weight_any {w : World} {x : Mt} (h : x.Ok w.heap.size w) :
    Calls Try.prog 18 #[x.val] w fun r w' => r = .returned (.int .i64 (sizeM x.m : Nat)) ∧ Below w.heap.size w w' := by
  obtain ⟨v1, v2, v3, st, kd, lo, hi, va⟩ := x
  obtain ⟨a1, c1, e1⟩ := h.lo.form
  obtain ⟨a2, c2, e2⟩ := h.hi.form
  obtain ⟨a3, c3, e3⟩ := h.va.form
  have s1 : lo.length ≤ 140737488355328 := h.lo.short
  have s2 : hi.length ≤ 140737488355328 := h.hi.short
  have s3 : va.length ≤ 140737488355328 := h.va.short
  simp only at e1 e2 e3
  subst e1 e2 e3
  unfold Mt.val sizeM
  simp only
  have HB0 : Hid (Below w.heap.size w (w.alloc (.cells #[.int .u64 (st : Int), .int .i64 kd, .slice a1 lo.length c1, .slice a2 hi.length c2, .slice a3 va.length c3] 38))) := below_new _ _
  clear h
  go_enter Try.func18, Try.ntmps18
  go_wp2
  go_ret
  exact ⟨ret_int (by omega), HB0.out⟩

/-- What weights tells: all their bytes, if these are not beyond the bound. -/
structure WeighPost (w : World) (M : List Ms) (r : Ending) (w' : World) : Prop where
  is : ∃ n : Nat, r = .returned (.int .i64 (n : Int)) ∧ (n ≤ 2147483647 → sizesM M = n) ∧ n ≤ 1000000000000000 ∧ Below w.heap.size w w'
theorem sizesM_zero (M : List Ms) : sizesM (M.take 0) = 0 := by simp [sizesM]

set_option maxHeartbeats 1600000 in
set_option maxRecDepth 100000 in
theorem weights_any {w : World} {v : Value} {L : List Mt} (hL : MsgsAt w.heap.size w v L) :
    Calls Try.prog 5 #[v] w fun r w' => WeighPost w (msOf L) r w' := by
  have hsh := hL.short
  obtain ⟨a, c, rfl⟩ := hL.form
  have HL : Hid (MsgsAt w.heap.size w (.slice a L.length c) L) := hL
  clear hL
  go_enter Try.func5, Try.ntmps5
  go_wp2_with fail
  go_loopw [3, 4] (fun s i wx => ∃ (k n : Nat), k ≤ L.length ∧ i = .int .i64 k ∧ s = .int .i64 n ∧ sizesM ((msOf L).take k) = n ∧ n ≤ 1000000000000000 ∧ Below w.heap.size w wx) (fun _ i _ => L.length - (intOf i).toNat)
  case atStart => exact ⟨0, 0, by omega, rfl, rfl, sizesM_zero _, by omega, Below.refl _ _⟩
  case round =>
    obtain ⟨k, n, hk, rfl, rfl, hn, hn2, hbw⟩ := hrel
    have HN : Hid (sizesM ((msOf L).take k) = n) := hn
    have HBW : Hid (Below w.heap.size w wr) := hbw
    clear hn hbw
    by_cases hlt : k < L.length
    · have hz : (k : Int) < (L.length : Int) := by omega
      by_cases hbd : n ≤ 2147483647
      · have hzb : (n : Int) ≤ 2147483647 := by omega
        obtain ⟨e, he⟩ : ∃ e, L[k]? = some e := ⟨_, List.getElem?_eq_getElem (by omega)⟩
        have hL := HL.out.here HBW.out
        obtain ⟨g, off, c', e1, k0, k1, k2, k3, k4⟩ := hL.cells k e he
        cases e1
        have hok := hL.ok e (List.mem_of_getElem? he)
        have HWE := weight_any hok
        have s1 := hok.lo.short
        have s2 := hok.hi.short
        have s3 := hok.va.short
        have HNX : Hid (sizesM ((msOf L).take (k + 1)) = n + sizeM e.m) := by
          rw [Hid, sizesM_take _ _ _ (msOf_get he), HN.out]
        have hsz : sizeM e.m ≤ 500000000000000 := by unfold sizeM; omega
        obtain ⟨z, hz2⟩ : ∃ z, z = sizeM e.m := ⟨_, rfl⟩
        rw [← hz2] at HWE HNX hsz
        clear hL hok he hz2 s1 s2 s3
        go_wp2_with fail
        refine HWE.mono ?_
        rintro r w1 ⟨rfl, hb1⟩
        have HB1 : Hid (Below w.heap.size w w1) := HBW.out.trans (hb1.mono HBW.out.size)
        clear hb1 HWE k0 k1 k2 k3 k4
        go_wp2
        exact ⟨⟨k + 1, n + z, by omega, by go_num, by go_num, HNX.out, by omega, HB1.out⟩, by simp [intOf]; omega⟩
      · have hzb : ¬ (n : Int) ≤ 2147483647 := by omega
        go_wp2
        go_ret
        exact ⟨n, rfl, fun h => absurd h hbd, hn2, HBW.out⟩
    · have hz : ¬ (k : Int) < (L.length : Int) := by omega
      have HE : Hid (sizesM (msOf L) = n) := by
        have := HN.out
        rw [List.take_of_length_le (by rw [msOf_length]; omega)] at this
        exact this
      go_wp2
      go_ret
      exact ⟨n, rfl, fun _ => HE.out, hn2, HBW.out⟩
end Go.Proofs.Ytkjjgbaoicjbaab
