/- given; Get. -/
import Derived.Test.YtkjjgbaoicjbaabAsserts
namespace Go.Proofs.Ytkjjgbaoicjbaab
open Go.RowKit

def isPut (m : Ms) : Bool := decide (m.kd = 1)
def valM (x : Mt) : Value := if x.m.kd = 1 then x.v3 else .slice none 0 0
set_option maxHeartbeats 800000 in
set_option maxRecDepth 100000 in
theorem given_any {w : World} {x : Mt} (h : x.Ok w.heap.size w) :
    Calls Try.prog 32 #[deedV x] w fun e w' => e = .returned (.tuple #[.bool (isPut x.m), valM x]) ∧ Below w.heap.size w w' := by
  obtain ⟨v1, v2, v3, st, kd, lo, hi, va⟩ := x
  obtain ⟨a1, c1, e1⟩ := h.lo.form
  obtain ⟨a2, c2, e2⟩ := h.hi.form
  obtain ⟨a3, c3, e3⟩ := h.va.form
  simp only at e1 e2 e3
  subst e1 e2 e3
  unfold deedV isPut valM
  simp only
  have HB0 : Hid (Below w.heap.size w (w.alloc (.cells #[.slice a1 lo.length c1, .slice a3 va.length c3] 76))) := below_new _ _
  clear h
  have t1 := as_pp
  have t2 := as_dp
  have t3 := as_cp
  have t4 := as_ip
  by_cases h1 : kd = 1
  · subst h1
    go_enter Try.func32, Try.ntmps32
    go_wp2_with fail
    go_quiet (fail)
    go_wp2
    go_ret2
    exact ⟨rfl, below_draws HB0.out _⟩
  · rw [if_neg h1, if_neg h1, decide_eq_false h1]
    by_cases h2 : kd = 2
    · subst h2
      go_enter Try.func32, Try.ntmps32
      go_wp2
      go_ret2
      exact ⟨rfl, Below.refl _ _⟩
    · rw [if_neg h2]
      by_cases h3 : kd = 3
      · subst h3
        go_enter Try.func32, Try.ntmps32
        go_wp2
        go_ret2
        exact ⟨rfl, Below.refl _ _⟩
      · rw [if_neg h3]
        clear h1 h2 h3
        go_enter Try.func32, Try.ntmps32
        go_wp2
        go_ret2
        exact ⟨rfl, Below.refl _ _⟩

def valK (m : Ms) : Key := if m.kd = 1 then m.va else []
theorem valM_at {w : World} {x : Mt} (h : x.Ok w.heap.size w) : KeyAt w (valM x) (valK x.m) := by
  unfold valM valK
  split
  · exact h.va.at (Nat.le_refl _)
  · exact KeyAt.nil _
theorem lastD_down {M : List Ms} {k : Key} {j : Nat} (h : 0 ≤ lastD M j k) : lastM M k = lastD M j k := by
  induction j with
  | zero => exact (lastD_zero M k).symm
  | succ j ih =>
    have hl : j < M.length := by
      rcases Nat.lt_or_ge j M.length with h1 | h1
      · exact h1
      · rw [lastD_end M k (j + 1) (by omega)] at h; omega
    have h2 := lastD_step M k j M[j] (List.getElem?_eq_getElem hl)
    rw [if_pos h] at h2
    rw [← h2]
    exact ih (by omega)
/-- The message at j decides, if none behind it does. -/
theorem getM_at {M : List Ms} {k : Key} {j : Nat} {m : Ms} (hm : M[j]? = some m) (hs : m.says k = true) (hn : lastD M (j + 1) k < 0) : decM M k = some m := by
  have h1 : lastD M j k = j := by rw [lastD_step M k j m hm, if_neg (by omega), if_pos hs]
  have h2 : lastM M k = j := by rw [lastD_down (j := j) (by omega), h1]
  unfold decM
  rw [h2, if_neg (by omega)]
  simpa using hm

set_option maxHeartbeats 1600000 in
set_option maxRecDepth 100000 in
theorem get_any {w : World} {v u : Value} {L : List Mt} {k : Key} (hL : MsgsAt w.heap.size w v L) (hu : KeyAt w u k) :
    Calls Try.prog 17 #[v, u] w fun e w' => ∃ v', e = .returned (.tuple #[.bool (getM (msOf L) k).isSome, .bool ((getM (msOf L) k).getD none).isSome, v']) ∧ NewKey w.heap.size w' v' (((getM (msOf L) k).getD none).getD []) ∧ Below w.heap.size w w' := by
  have hsh := hL.short
  obtain ⟨a, c, rfl⟩ := hL.form
  obtain ⟨au, cu, e⟩ := hu.in.form
  subst e
  have HL : Hid (MsgsAt w.heap.size w (.slice a L.length c) L) := hL
  have HU : Hid (KeyAt w (.slice au k.length cu) k) := hu
  clear hL hu
  go_enter Try.func17, Try.ntmps17
  go_wp2_with fail
  go_loopw [7] (fun i wx => ∃ (j : Nat) (z : Int), j ≤ L.length ∧ i = .int .i64 z ∧ z = (j : Int) - 1 ∧ lastD (msOf L) j k < 0 ∧ Below w.heap.size w wx) (fun i _ => (intOf i + 1).toNat)
  case atStart => exact ⟨L.length, _, Nat.le_refl _, rfl, by first | rfl | omega, by rw [lastD_end _ _ _ (by rw [msOf_length]; exact Nat.le_refl _)]; decide, Below.refl _ _⟩
  case round =>
    obtain ⟨j, z, hj, rfl, hz, hno, hbw⟩ := hrel
    have HNO : Hid (lastD (msOf L) j k < 0) := hno
    have HBW : Hid (Below w.heap.size w wr) := hbw
    clear hno hbw
    cases j with
    | zero =>
      have hz0 : ¬ (0 : Int) ≤ z := by omega
      have HG : Hid (getM (msOf L) k = none) := by
        rw [Hid, getM, decM_none.2 (by rw [← lastD_zero]; exact HNO.out)]; rfl
      clear hz
      go_wp2
      go_ret3
      exact ⟨_, by rw [HG.out]; rfl, by rw [HG.out]; exact NewKey.nil _ _, HBW.out⟩
    | succ j =>
      have hz0 : (0 : Int) ≤ z := by omega
      obtain rfl : z = (j : Int) := by omega
      have hjl : (j : Int) < (L.length : Int) := by omega
      obtain ⟨e, he⟩ : ∃ e, L[j]? = some e := ⟨_, List.getElem?_eq_getElem (by omega)⟩
      have hL := HL.out.here HBW.out
      obtain ⟨g, off, c', e1, k0, k1, k2, k3, k4⟩ := hL.cells j e he
      cases e1
      have HEO : Hid (e.Ok wr.heap.size wr) := hL.ok e (List.mem_of_getElem? he)
      have HDO := deedOf_any HEO.out
      have HE : Hid (L[j]? = some e) := he
      clear hL hz he
      go_wp2_with fail
      refine HDO.mono ?_
      rintro r w1 ⟨rfl, hb1⟩
      have HB1 : Hid (Below wr.heap.size wr w1) := hb1
      have HBW1 : Hid (Below w.heap.size w w1) := HBW.out.trans (hb1.mono HBW.out.size)
      have HE1 : Hid (e.Ok w1.heap.size w1) := HEO.out.here hb1
      obtain ⟨T, y, F, hinv, hsay⟩ := says_deed (HEO.out.here hb1)
      have HD : Hid (deedV e = .iface T y) := hinv.is
      have hm := hinv.method
      have hen := hinv.enters
      have HSA := hsay w1 (.slice au k.length cu) k (Below.refl _ _) (HU.out.here HBW1.out)
      rw [HD.out]
      clear hb1 hinv hsay HDO
      go_wp2_with fail
      refine HSA.mono ?_
      rintro r w2 ⟨rfl, hb2⟩
      have HB2 : Hid (Below w1.heap.size w1 w2) := hb2
      have HBW2 : Hid (Below w.heap.size w w2) := HBW1.out.trans (hb2.mono HBW1.out.size)
      have HGI := given_any (HE1.out.here hb2)
      rw [HD.out] at HGI
      clear hb2 HSA k0 k1 k2 k3 k4 hm hen
      cases hs : e.m.says k with
      | false =>
        have HNX : Hid (lastD (msOf L) j k < 0) := by
          rw [Hid, lastD_step _ _ _ _ (msOf_get HE.out), if_neg (by have := HNO.out; omega), hs]; simp
        go_wp2
        exact ⟨⟨j, _, by omega, rfl, by go_num, HNX.out, HBW2.out⟩, by simp [intOf]⟩
      | true =>
        have HDM : Hid (decM (msOf L) k = some e.m) := getM_at (msOf_get HE.out) hs HNO.out
        clear hs
        go_wp2_with fail
        refine HGI.mono ?_
        rintro r w3 ⟨rfl, hb3⟩
        have HBW3 : Hid (Below w.heap.size w w3) := HBW2.out.trans (hb3.mono HBW2.out.size)
        have HAN := anewG_any (valM_at ((HE1.out.here HB2.out).here hb3))
        clear hb3 HGI
        go_wp2_with fail
        refine HAN.mono ?_
        rintro r w4 ⟨v', rfl, hn, hb4⟩
        have HN : Hid (NewKey w3.heap.size w4 v' (valK e.m)) := hn
        have HBW4 : Hid (Below w.heap.size w w4) := HBW3.out.trans (hb4.mono HBW3.out.size)
        clear hn hb4 HAN
        go_wp2
        go_ret3
        refine ⟨v', ?_, ?_, HBW4.out⟩
        · rw [getM, HDM.out]
          unfold isPut
          by_cases h1 : e.m.kd = 1 <;> simp [h1]
        · have := HN.out.mono HBW3.out.size
          rw [getM, HDM.out]
          unfold valK at this
          by_cases h1 : e.m.kd = 1 <;> simpa [h1] using this
end Go.Proofs.Ytkjjgbaoicjbaab
