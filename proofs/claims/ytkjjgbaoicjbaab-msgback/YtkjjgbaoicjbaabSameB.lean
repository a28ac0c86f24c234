/- The law's sameMsg, sameMsgs. -/
import Derived.Test.YtkjjgbaoicjbaabEnc
import Derived.Test.YtkjjgbaoicjbaabLits
import Derived.BigQuiet
namespace Go.Proofs.Ytkjjgbaoicjbaab
open Go.RowKit

theorem ms_ext {a b : Ms} (h1 : a.st = b.st) (h2 : a.kd = b.kd) (h3 : a.lo = b.lo) (h4 : a.hi = b.hi) (h5 : a.va = b.va) : a = b := by
  cases a; cases b; simp_all

set_option maxHeartbeats 3200000 in
set_option maxRecDepth 100000 in
theorem sameMsg_any {w : World} {x y : Mt} (hx : x.Ok w.heap.size w) (hy : y.Ok w.heap.size w) :
    Calls Try.prog 25 #[x.val, y.val] w fun e w' => e = .returned (.bool (decide (x.m = y.m))) ∧ Below w.heap.size w w' := by
  obtain ⟨v1, v2, v3, m⟩ := x
  obtain ⟨u1, u2, u3, n⟩ := y
  obtain ⟨a1, c1, e1⟩ := hx.lo.form
  obtain ⟨a2, c2, e2⟩ := hx.hi.form
  obtain ⟨a3, c3, e3⟩ := hx.va.form
  obtain ⟨b1, d1, f1⟩ := hy.lo.form
  obtain ⟨b2, d2, f2⟩ := hy.hi.form
  obtain ⟨b3, d3, f3⟩ := hy.va.form
  simp only at e1 e2 e3 f1 f2 f3
  subst e1 e2 e3 f1 f2 f3
  obtain ⟨W0, hW0⟩ : ∃ W0, W0 = w.alloc (.cells #[.int .u64 (m.st : Int), .int .i64 m.kd, .slice a1 m.lo.length c1, .slice a2 m.hi.length c2, .slice a3 m.va.length c3] 38) := ⟨_, rfl⟩
  obtain ⟨W, hW⟩ : ∃ W, W = W0.alloc (.cells #[.int .u64 (n.st : Int), .int .i64 n.kd, .slice b1 n.lo.length d1, .slice b2 n.hi.length d2, .slice b3 n.va.length d3] 38) := ⟨_, rfl⟩
  have hb0 : Below w.heap.size w W0 := by rw [hW0]; exact below_new _ _
  have hz0 : W0.heap.size = w.heap.size + 1 := by rw [hW0]; simp
  have hb1 : Below W0.heap.size W0 W := by rw [hW]; exact below_new _ _
  have HBW : Hid (Below w.heap.size w W) := hb0.trans (hb1.mono hb0.size)
  have HX : Hid (MBox W w.heap.size ⟨.slice a1 m.lo.length c1, .slice a2 m.hi.length c2, .slice a3 m.va.length c3, m⟩) := by
    have : MBox W0 w.heap.size ⟨.slice a1 m.lo.length c1, .slice a2 m.hi.length c2, .slice a3 m.va.length c3, m⟩ := by rw [hW0]; exact ⟨heap_alloc_last _ _⟩
    exact this.here hb1
  have HY : Hid (MBox W (w.heap.size + 1) ⟨.slice b1 n.lo.length d1, .slice b2 n.hi.length d2, .slice b3 n.va.length d3, n⟩) := by
    rw [← hz0, hW]; exact ⟨heap_alloc_last _ _⟩
  obtain ⟨k0, k1, k2, k3, k4⟩ := HX.out.cells
  obtain ⟨n0, n1, n2, n3, n4⟩ := HY.out.cells
  simp only at k0 k1 k2 k3 k4 n0 n1 n2 n3 n4
  have ox := hx.here HBW.out
  have oy := hy.here HBW.out
  have g1 := conv_key (ox.lo.at (Nat.le_refl _))
  have g2 := conv_key (ox.hi.at (Nat.le_refl _))
  have g3 := conv_key (ox.va.at (Nat.le_refl _))
  have j1 := conv_key (oy.lo.at (Nat.le_refl _))
  have j2 := conv_key (oy.hi.at (Nat.le_refl _))
  have j3 := conv_key (oy.va.at (Nat.le_refl _))
  simp only at g1 g2 g3 j1 j2 j3
  have r1 := strB_eq m.lo n.lo
  have r2 := strB_eq m.hi n.hi
  have r3 := strB_eq m.va n.va
  simp only [Mt.val]
  obtain ⟨st, kd, lo, hi, va⟩ := m
  obtain ⟨st', kd', lo', hi', va'⟩ := n
  simp only at *
  clear hx hy ox oy hb0 hb1
  go_enter Try.func25, Try.ntmps25
  go_upto_region 1 with fail
  rw [← hW0, ← hW]
  clear hW hW0 hz0
  generalize strB lo = S1 at *
  generalize strB lo' = S1' at *
  generalize strB hi = S2 at *
  generalize strB hi' = S2' at *
  generalize strB va = S3 at *
  generalize strB va' = S3' at *
  by_cases h1 : st = st'
  · have z1 : ((st : Int) == (st' : Int)) = true := by simp [h1]
    by_cases h2 : kd = kd'
    · have z2 : (kd == kd') = true := by simp [h2]
      by_cases h3 : lo = lo'
      · rw [decide_eq_true h3] at r1
        by_cases h4 : hi = hi'
        · rw [decide_eq_true h4] at r2
          by_cases h5 : va = va'
          · rw [decide_eq_true h5] at r3
            have HR : Hid (decide ((⟨st, kd, lo, hi, va⟩ : Ms) = ⟨st', kd', lo', hi', va'⟩) = true) := decide_eq_true (ms_ext h1 h2 h3 h4 h5)
            clear h1 h2 h3 h4 h5
            go_wp2
            go_ret
            exact ⟨ret_bool (by rw [HR.out]), HBW.out⟩
          · rw [decide_eq_false h5] at r3
            have HR : Hid (decide ((⟨st, kd, lo, hi, va⟩ : Ms) = ⟨st', kd', lo', hi', va'⟩) = false) := decide_eq_false (fun e => h5 (congrArg Ms.va e))
            clear h1 h2 h3 h4 h5
            go_wp2
            go_ret
            exact ⟨ret_bool (by rw [HR.out]), HBW.out⟩
        · rw [decide_eq_false h4] at r2
          have HR : Hid (decide ((⟨st, kd, lo, hi, va⟩ : Ms) = ⟨st', kd', lo', hi', va'⟩) = false) := decide_eq_false (fun e => h4 (congrArg Ms.hi e))
          clear h1 h2 h3 h4
          go_wp2
          go_ret
          exact ⟨ret_bool (by rw [HR.out]), HBW.out⟩
      · rw [decide_eq_false h3] at r1
        have HR : Hid (decide ((⟨st, kd, lo, hi, va⟩ : Ms) = ⟨st', kd', lo', hi', va'⟩) = false) := decide_eq_false (fun e => h3 (congrArg Ms.lo e))
        clear h1 h2 h3
        go_wp2
        go_ret
        exact ⟨ret_bool (by rw [HR.out]), HBW.out⟩
    · have z2 : (kd == kd') = false := by rw [beq_eq_false_iff_ne]; exact h2
      have HR : Hid (decide ((⟨st, kd, lo, hi, va⟩ : Ms) = ⟨st', kd', lo', hi', va'⟩) = false) := decide_eq_false (fun e => h2 (congrArg Ms.kd e))
      clear h1 h2
      go_wp2
      go_ret
      exact ⟨ret_bool (by rw [HR.out]), HBW.out⟩
  · have z1 : ((st : Int) == (st' : Int)) = false := by rw [beq_eq_false_iff_ne]; omega
    have HR : Hid (decide ((⟨st, kd, lo, hi, va⟩ : Ms) = ⟨st', kd', lo', hi', va'⟩) = false) := decide_eq_false (fun e => h1 (congrArg Ms.st e))
    clear h1
    go_wp2
    go_ret
    exact ⟨ret_bool (by rw [HR.out]), HBW.out⟩

set_option maxHeartbeats 3200000 in
set_option maxRecDepth 100000 in
theorem sameMsgs_any {w : World} {v u : Value} {A B : List Mt} (hA : MsgsAt w.heap.size w v A) (hB : MsgsAt w.heap.size w u B) :
    Calls Try.prog 10 #[v, u] w fun e w' => e = .returned (.bool (decide (msOf A = msOf B))) ∧ Below w.heap.size w w' := by
  obtain ⟨a1, c1, rfl⟩ := hA.form
  obtain ⟨a2, c2, rfl⟩ := hB.form
  have hs1 := hA.short
  have hs2 := hB.short
  have HA : Hid (MsgsAt w.heap.size w (.slice a1 A.length c1) A) := hA
  have HB : Hid (MsgsAt w.heap.size w (.slice a2 B.length c2) B) := hB
  clear hA hB
  by_cases hl : A.length = B.length
  · have hz1 : ((A.length : Int) != (B.length : Int)) = false := by simp [hl]
    have HL : Hid (A.length = B.length) := hl
    clear hl
    go_enter Try.func10, Try.ntmps10
    go_wp2_with fail
    go_loopw [5] (fun i wx => ∃ k : Nat, k ≤ A.length ∧ i = .int .i64 k ∧ (msOf A).take k = (msOf B).take k ∧ Below w.heap.size w wx) (fun i _ => A.length - (intOf i).toNat)
    case atStart => exact ⟨0, by omega, rfl, rfl, Below.refl _ _⟩
    case round =>
      obtain ⟨k, hk, rfl, heq, hbe⟩ := hrel
      have HEQ : Hid ((msOf A).take k = (msOf B).take k) := heq
      have HBE : Hid (Below w.heap.size w wr) := hbe
      clear heq
      by_cases hkl : k < A.length
      · have hkz : (k : Int) < (A.length : Int) := by omega
        have hkq : (k : Int) < (B.length : Int) := by have := HL.out; omega
        obtain ⟨x, hx⟩ : ∃ x, A[k]? = some x := ⟨_, List.getElem?_eq_getElem hkl⟩
        obtain ⟨y, hy⟩ : ∃ y, B[k]? = some y := ⟨B[k]'(by have := HL.out; omega), List.getElem?_eq_getElem _⟩
        obtain ⟨g, off, _, e1, k0, k1, k2, k3, k4⟩ := (HA.out.here hbe).cells k x hx
        cases e1
        obtain ⟨g', off', _, e1, n0, n1, n2, n3, n4⟩ := (HB.out.here hbe).cells k y hy
        cases e1
        have hdr : Below wr.heap.size wr wr.drew := (Below.refl _ _).drew
        have HSA : Hid (Calls Try.prog 25 #[.agg #[.int .u64 (x.m.st : Int), .int .i64 x.m.kd, x.v1, x.v2, x.v3], .agg #[.int .u64 (y.m.st : Int), .int .i64 y.m.kd, y.v1, y.v2, y.v3]] wr.drew fun e w' => e = .returned (.bool (decide (x.m = y.m))) ∧ Below wr.drew.heap.size wr.drew w') :=
          sameMsg_any (((HA.out.here hbe).here hdr).ok x (List.mem_of_getElem? hx)) (((HB.out.here hbe).here hdr).ok y (List.mem_of_getElem? hy))
        have HNE : Hid (x.m ≠ y.m → decide (msOf A = msOf B) = false) := fun h => by
          rw [decide_eq_false_iff_not]
          intro e
          have h1 := msOf_get hx
          rw [e, msOf_get hy] at h1
          exact h (Option.some.inj h1).symm
        have HSU : Hid (x.m = y.m → (msOf A).take (k + 1) = (msOf B).take (k + 1)) := fun h => by
          rw [List.take_add_one, List.take_add_one, HEQ.out, msOf_get hx, msOf_get hy, h]
        have HD : Hid (Below wr.heap.size wr wr.drew) := hdr
        clear hbe hx hy hdr
        go_wp2_with fail
        go_region_with ((go_at_call 25
                         refine HSA.out.mono ?_
                         rintro r w5 ⟨rfl, hb5⟩
                         have HB5 : Hid (Below w.heap.size w w5) := HBE.out.trans ((HD.out.trans (hb5.mono HD.out.size)).mono HBE.out.size)
                         clear hb5))
        all_goals
          by_cases he : x.m = y.m
          · have HN : Hid ((msOf A).take (k + 1) = (msOf B).take (k + 1)) := HSU.out he
            rw [decide_eq_true he]
            clear he
            go_wp2
            exact ⟨⟨k + 1, by omega, by go_num, HN.out, HB5.out⟩, by simp [intOf]; omega⟩
          · have HR : Hid (decide (msOf A = msOf B) = false) := HNE.out he
            rw [decide_eq_false he]
            clear he
            go_wp2
            go_ret
            exact ⟨ret_bool (by rw [HR.out]), HB5.out⟩
      · have hkz : ¬ (k : Int) < (A.length : Int) := by omega
        have HR : Hid (decide (msOf A = msOf B) = true) := by
          have h1 := HEQ.out
          have hl := HL.out
          rw [List.take_of_length_le (by rw [msOf_length]; omega), List.take_of_length_le (by rw [msOf_length]; omega)] at h1
          rw [Hid, decide_eq_true_iff]
          exact h1
        clear hbe
        go_wp2
        go_ret
        exact ⟨ret_bool (by rw [HR.out]), HBE.out⟩
  · have hz1 : ((A.length : Int) != (B.length : Int)) = true := by simp; omega
    have HR : Hid (decide (msOf A = msOf B) = false) := by
      rw [Hid, decide_eq_false_iff_not]
      intro e
      exact hl (by rw [← msOf_length, e, msOf_length])
    clear hl
    go_enter Try.func10, Try.ntmps10
    go_wp2
    go_ret
    exact ⟨ret_bool (by rw [HR.out]), Below.refl _ _⟩
end Go.Proofs.Ytkjjgbaoicjbaab
