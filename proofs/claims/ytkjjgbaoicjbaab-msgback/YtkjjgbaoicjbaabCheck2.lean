/- Check, Bytes. -/
import Derived.Test.YtkjjgbaoicjbaabCheck
namespace Go.Proofs.Ytkjjgbaoicjbaab
open Go.RowKit

theorem checkL_at {z n k : Nat} {M : List Ms} {m : Ms} (h : M[k]? = some m) : checkL z n (M.drop k) = if m.may z = false then 71 else if m.st ≤ n ∨ 4611686018427387904 < m.st then 72 else checkL z m.st (M.drop (k + 1)) := by
  obtain ⟨h1, rfl⟩ := List.getElem?_eq_some_iff.1 h
  rw [List.drop_eq_getElem_cons h1, checkL]

set_option maxHeartbeats 1600000 in
set_option maxRecDepth 100000 in
theorem check_any {w : World} {v : Value} {L : List Mt} {z : Int} (hL : MsgsAt w.heap.size w v L) :
    Calls Try.prog 6 #[.int .i64 z, v] w fun r w' => r = .returned (.int .i64 (checkM z (msOf L) : Nat)) ∧ Below w.heap.size w w' := by
  have hsh := hL.short
  obtain ⟨a, c, rfl⟩ := hL.form
  have HL : Hid (MsgsAt w.heap.size w (.slice a L.length c) L) := hL
  have HSZ := sized_any w z
  clear hL
  by_cases hs : Sized z
  · rw [decide_eq_true hs] at HSZ
    have HS : Hid (Sized z) := hs
    have HCM : Hid (checkM z (msOf L) = checkL z.toNat 0 (msOf L)) := by rw [Hid, checkM, if_neg (by simpa using hs)]
    clear hs
    go_enter Try.func6, Try.ntmps6
    go_wp2_with fail
    refine HSZ.mono ?_
    rintro r w0 ⟨rfl, rfl⟩
    go_wp2_with fail
    go_loopw [5, 13] (fun s i wx => ∃ k n : Nat, k ≤ L.length ∧ i = .int .i64 k ∧ s = .int .u64 (n : Int) ∧ checkL z.toNat 0 (msOf L) = checkL z.toNat n ((msOf L).drop k) ∧ Below w0.heap.size w0 wx) (fun _ i _ => L.length - (intOf i).toNat)
    case atStart => exact ⟨0, 0, by omega, rfl, rfl, by simp, Below.refl _ _⟩
    case round =>
      obtain ⟨k, n, hk, rfl, rfl, hc, hbw⟩ := hrel
      have HC : Hid (checkL z.toNat 0 (msOf L) = checkL z.toNat n ((msOf L).drop k)) := hc
      have HBW : Hid (Below w0.heap.size w0 wr) := hbw
      clear hc hbw
      by_cases hlt : k < L.length
      · have hz : (k : Int) < (L.length : Int) := by omega
        obtain ⟨e, he⟩ : ∃ e, L[k]? = some e := ⟨_, List.getElem?_eq_getElem hlt⟩
        have hL := HL.out.here HBW.out
        obtain ⟨g, off, c', e1, k0, k1, k2, k3, k4⟩ := hL.cells k e he
        cases e1
        have hok := hL.ok e (List.mem_of_getElem? he)
        have HST := checkL_at (z := z.toNat) (n := n) (msOf_get he)
        have HT : Hid _ := HST
        obtain ⟨a1, c1, f1⟩ := hok.lo.form
        obtain ⟨a2, c2, f2⟩ := hok.hi.form
        obtain ⟨a3, c3, f3⟩ := hok.va.form
        clear he HST
        obtain ⟨v1, v2, v3, m⟩ := e
        simp only at f1 f2 f3 k0 k1 k2 k3 k4
        subst f1 f2 f3
        obtain ⟨W, hW⟩ : ∃ W, W = wr.alloc (.cells #[.int .u64 (m.st : Int), .int .i64 m.kd, .slice a1 m.lo.length c1, .slice a2 m.hi.length c2, .slice a3 m.va.length c3] 38) := ⟨_, rfl⟩
        have HWB : Hid (Below wr.heap.size wr W) := by rw [hW]; exact below_new _ _
        have HMB : Hid (W.heap[wr.heap.size]? = some (.cells #[.int .u64 (m.st : Int), .int .i64 m.kd, .slice a1 m.lo.length c1, .slice a2 m.hi.length c2, .slice a3 m.va.length c3] 38 (0, 0))) := by rw [hW]; exact heap_alloc_last _ _
        have HFO := formed_any HS.out (hok.here HWB.out)
        unfold Mt.val at HFO
        simp only at HFO
        clear hL hok
        go_wp2_with fail
        rw [← hW]
        clear hW
        refine HFO.mono ?_
        rintro r w1 ⟨rfl, hb1⟩
        have HB1 : Hid (Below w0.heap.size w0 w1) := (HBW.out.trans (HWB.out.mono HBW.out.size)).trans (hb1.mono (Nat.le_trans HBW.out.size HWB.out.size))
        have hmb : w1.heap[wr.heap.size]? = some (.cells #[.int .u64 (m.st : Int), .int .i64 m.kd, .slice a1 m.lo.length c1, .slice a2 m.hi.length c2, .slice a3 m.va.length c3] 38 (0, 0)) := by
          rw [hb1.block _ (Array.getElem?_eq_some_iff.1 HMB.out).1]; exact HMB.out
        have m0 : w1.cell? ⟨wr.heap.size, 0, none⟩ = some (.int .u64 (m.st : Int)) := by rw [row_cell hmb]; rfl
        clear hb1 hmb HFO k0 k1 k2 k3 k4
        cases hf : m.may z.toNat with
        | false =>
          have HR : Hid (checkM z (msOf L) = 71) := by rw [Hid, HCM.out, HC.out, HT.out, if_pos hf]
          clear hf
          go_wp2
          go_ret
          exact ⟨by rw [HR.out]; rfl, HB1.out⟩
        | true =>
          by_cases h1 : m.st ≤ n
          · have h1z : (m.st : Int) ≤ (n : Int) := by omega
            have HR : Hid (checkM z (msOf L) = 72) := by rw [Hid, HCM.out, HC.out, HT.out, if_neg (by simp [hf]), if_pos (.inl h1)]
            clear hf h1
            go_wp2
            go_ret
            exact ⟨by rw [HR.out]; rfl, HB1.out⟩
          · have h1z : ¬ (m.st : Int) ≤ (n : Int) := by omega
            by_cases h2 : 4611686018427387904 < m.st
            · have h2z : (4611686018427387904 : Int) < (m.st : Int) := by omega
              have HR : Hid (checkM z (msOf L) = 72) := by rw [Hid, HCM.out, HC.out, HT.out, if_neg (by simp [hf]), if_pos (.inr h2)]
              clear hf h1 h2
              go_wp2
              go_ret
              exact ⟨by rw [HR.out]; rfl, HB1.out⟩
            · have h2z : ¬ (4611686018427387904 : Int) < (m.st : Int) := by omega
              have HN : Hid (checkL z.toNat 0 (msOf L) = checkL z.toNat m.st ((msOf L).drop (k + 1))) := by rw [Hid, HC.out, HT.out, if_neg (by simp [hf]), if_neg (by omega)]
              clear hf h1 h2
              go_wp2
              exact ⟨⟨k + 1, m.st, by omega, by go_num, rfl, HN.out, HB1.out⟩, by simp [intOf]; omega⟩
      · have hz : ¬ (k : Int) < (L.length : Int) := by omega
        have HR : Hid (checkM z (msOf L) = 0) := by
          rw [Hid, HCM.out, HC.out, List.drop_of_length_le (by rw [msOf_length]; omega), checkL]
        go_wp2
        go_ret
        exact ⟨by rw [HR.out]; rfl, HBW.out⟩
  · rw [decide_eq_false hs] at HSZ
    have HR : Hid (checkM z (msOf L) = 1) := by rw [Hid, checkM, if_pos hs]
    clear hs
    go_enter Try.func6, Try.ntmps6
    go_wp2_with fail
    refine HSZ.mono ?_
    rintro r w0 ⟨rfl, rfl⟩
    go_wp2
    go_ret
    exact ⟨by rw [HR.out]; rfl, Below.refl _ _⟩

set_option maxHeartbeats 1600000 in
set_option maxRecDepth 100000 in
theorem bytesG_any {w : World} {v : Value} {L : List Mt} (hL : MsgsAt w.heap.size w v L) (hs : sizesM (msOf L) ≤ 281474976710656) :
    Calls Try.prog 9 #[v] w fun r w' => r = .returned (.int .i64 ((4 + sizesM (msOf L) : Nat) : Int)) ∧ Below w.heap.size w w' := by
  have hsh := hL.short
  obtain ⟨a, c, rfl⟩ := hL.form
  have HL : Hid (MsgsAt w.heap.size w (.slice a L.length c) L) := hL
  clear hL
  go_enter Try.func9, Try.ntmps9
  go_wp2_with fail
  go_loopw [3, 8] (fun s i wx => ∃ k n : Nat, k ≤ L.length ∧ i = .int .i64 k ∧ s = .int .i64 (n : Int) ∧ n = 4 + sizesM ((msOf L).take k) ∧ Below w.heap.size w wx) (fun _ i _ => L.length - (intOf i).toNat)
  case atStart => exact ⟨0, 4, by omega, rfl, rfl, by simp [sizesM], Below.refl _ _⟩
  case round =>
    obtain ⟨k, n, hk, rfl, rfl, hc, hbw⟩ := hrel
    have HC : Hid (n = 4 + sizesM ((msOf L).take k)) := hc
    have HBW : Hid (Below w.heap.size w wr) := hbw
    clear hc hbw
    by_cases hlt : k < L.length
    · have hz : (k : Int) < (L.length : Int) := by omega
      obtain ⟨e, he⟩ : ∃ e, L[k]? = some e := ⟨_, List.getElem?_eq_getElem hlt⟩
      have hL := HL.out.here HBW.out
      obtain ⟨g, off, c', e1, k0, k1, k2, k3, k4⟩ := hL.cells k e he
      cases e1
      have hok := hL.ok e (List.mem_of_getElem? he)
      have HN : Hid (sizesM ((msOf L).take (k + 1)) = sizesM ((msOf L).take k) + sizeM e.m) := sizesM_take _ _ _ (msOf_get he)
      have hle := sizesM_sub (List.take_sublist (k + 1) (msOf L))
      rw [HN.out] at hle
      have hn : n + sizeM e.m ≤ 281474976710660 := by have := HC.out; omega
      unfold sizeM at hn
      obtain ⟨a1, c1, f1⟩ := hok.lo.form
      obtain ⟨a2, c2, f2⟩ := hok.hi.form
      obtain ⟨a3, c3, f3⟩ := hok.va.form
      rw [f1] at k2
      rw [f2] at k3
      rw [f3] at k4
      have HW : Hid (Below w.heap.size w (wr.alloc (.cells #[.int .u64 (e.m.st : Int), .int .i64 e.m.kd, .slice a1 e.m.lo.length c1, .slice a2 e.m.hi.length c2, .slice a3 e.m.va.length c3] 38))) := HBW.out.alloc HBW.out.size _
      clear hL he hok f1 f2 f3 hle
      go_wp2
      refine ⟨⟨k + 1, n + (13 + e.m.lo.length + e.m.hi.length + e.m.va.length), by omega, by go_num, by go_num, ?_, HW.out⟩, by simp [intOf]; omega⟩
      rw [HN.out, HC.out]; unfold sizeM; omega
    · have hz : ¬ (k : Int) < (L.length : Int) := by omega
      have HR : Hid (n = 4 + sizesM (msOf L)) := by rw [Hid, HC.out, List.take_of_length_le (by rw [msOf_length]; omega)]
      go_wp2
      go_ret
      exact ⟨ret_int (by have := HR.out; omega), HBW.out⟩
end Go.Proofs.Ytkjjgbaoicjbaab
