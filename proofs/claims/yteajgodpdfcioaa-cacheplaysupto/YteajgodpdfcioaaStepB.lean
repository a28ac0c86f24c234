/- step: a cache more, no cache yet, a kind that is none. -/
import Derived.Test.YteajgodpdfcioaaStepA
namespace Go.Proofs.Yteajgodpdfcioaa
open Go.RowKit Go.Maps

theorem Inv.mono {B U U' n : Nat} {w : World} {W : Nat} {cs ls rs : Nat → Nat} {SC SL : Nat → Ca Value} {SR : Nat → Ca Int} {vc vl vr vo vw : Value} {O N : List (Value × List Int)} (h : Inv B U n w W cs ls rs SC SL SR vc vl vr vo vw O N) (hU : U ≤ U') : Inv B U' n w W cs ls rs SC SL SR vc vl vr vo vw O N :=
  ⟨⟨h.ws.head, h.ws.rc, h.ws.rl, h.ws.rr, h.ws.wos.mono hU, h.ws.few, h.ws.hB, h.ws.lw⟩, h.bk, h.ac, h.al, h.own, h.one⟩
/-- All that the World keeps, whatever it is; how many lists came out at most, each of new memory. -/
def Al (B U : Nat) (w : World) (W K : Nat) : Prop := ∃ n cs ls rs SC SL SR vc vl vr vo vw O N, Inv B U n w W cs ls rs SC SL SR vc vl vr vo vw O N ∧ O.length ≤ K ∧ ∀ p ∈ O ++ N, (∀ k, p.1.ownBlock = some k → B ≤ k) ∧ p.2.length ≤ 65536
theorem made_inv {B U n : Nat} {w : World} {W : Nat} {cs ls rs : Nat → Nat} {SC SL : Nat → Ca Value} {SR : Nat → Ca Int} {vc vl vr vo vw : Value} {O N : List (Value × List Int)} (h : Inv B U n w W cs ls rs SC SL SR vc vl vr vo vw O N) (m : Int) :
    Calls Try.prog 19 #[ptr W, .int .i64 m] w fun r w' => r = .returned (.bool true) ∧ Hid (∃ n' cs' ls' rs' SC' SL' SR' vc' vl' vr', Inv B U n' w' W cs' ls' rs' SC' SL' SR' vc' vl' vr' vo vw O N ∧ Below B w w') := by
  by_cases h30 : n = 30
  · refine (made_full h.ws h30 m).mono ?_
    rintro r w' ⟨rfl, hb⟩
    exact ⟨rfl, _, _, _, _, _, _, _, _, _, _, h.below hb, hb.mono h.ws.hB⟩
  · have hn : n < 30 := by have := h.ws.few; omega
    by_cases hm : m < 1 ∨ 65536 < m
    · refine (made_bad h.ws hn hm).mono ?_
      rintro r w' ⟨rfl, hb⟩
      exact ⟨rfl, _, _, _, _, _, _, _, _, _, _, h.below hb, hb.mono h.ws.hB⟩
    · obtain ⟨k, rfl⟩ : ∃ k : Nat, m = (k : Int) := ⟨m.toNat, by omega⟩
      refine (made_ok h.ws hn (m := k) (by omega) (by omega)).mono ?_
      rintro r w' ⟨rfl, bc, bl, br, vc', vl', vr', hp⟩
      obtain ⟨h1, h2⟩ := h.made hp
      exact ⟨rfl, _, _, _, _, _, _, _, _, _, _, h1, h2⟩
set_option maxHeartbeats 800000 in
set_option maxRecDepth 100000 in
theorem step_new {B U n : Nat} {w : World} {W : Nat} {cs ls rs : Nat → Nat} {SC SL : Nat → Ca Value} {SR : Nat → Ca Int} {vc vl vr vo vw : Value} {O N : List (Value × List Int)} (h : Inv B U n w W cs ls rs SC SL SR vc vl vr vo vw O N) {o m x : Int} :
    Calls Try.prog 8 #[ptr W, .agg #[.int .i64 1, .int .i64 o, .int .i64 m, .int .i64 x]] w fun r w' => r = .returned (.bool true) ∧ ∃ n' cs' ls' rs' SC' SL' SR' vc' vl' vr', Inv B U n' w' W cs' ls' rs' SC' SL' SR' vc' vl' vr' vo vw O N ∧ Below B w w' := by
  have HB : Hid (Below w.heap.size w (w.alloc (.cells #[.int .i64 1, .int .i64 o, .int .i64 m, .int .i64 x] 33))) := below_new _ _
  have HM : Hid _ := made_inv (h.below HB.out) m
  have HBW : Hid (B ≤ w.heap.size) := h.ws.hB
  clear h
  go_enter Try.func8, Try.ntmps8
  go_wp2_with fail
  refine Calls.mono HM.out ?_
  rintro r w2 ⟨rfl, hA⟩
  clear HM
  go_wp2_with fail
  go_ret
  obtain ⟨n', cs', ls', rs', SC', SL', SR', vc', vl', vr', h1, h2⟩ := hA.out
  exact ⟨rfl, n', cs', ls', rs', SC', SL', SR', vc', vl', vr', h1, (HB.out.mono HBW.out).trans h2⟩
set_option maxHeartbeats 800000 in
set_option maxRecDepth 100000 in
theorem step_none {B U : Nat} {w : World} {W : Nat} {cs ls rs : Nat → Nat} {SC SL : Nat → Ca Value} {SR : Nat → Ca Int} {vc vl vr vo vw : Value} {O N : List (Value × List Int)} (h : Inv B U 0 w W cs ls rs SC SL SR vc vl vr vo vw O N) {k o m x : Int} (hk : k ≠ 1) :
    Calls Try.prog 8 #[ptr W, .agg #[.int .i64 k, .int .i64 o, .int .i64 m, .int .i64 x]] w fun r w' => r = .returned (.bool true) ∧ Below w.heap.size w w' := by
  have HB : Hid (Below w.heap.size w (w.alloc (.cells #[.int .i64 k, .int .i64 o, .int .i64 m, .int .i64 x] 33))) := below_new _ _
  obtain ⟨ac, cc, rfl⟩ := own_slice h.ws.rc
  have c0 : (w.alloc (.cells #[.int .i64 k, .int .i64 o, .int .i64 m, .int .i64 x] 33)).cell? ⟨W, 0, none⟩ = some (.slice ac 0 cc) := by rw [row_cell (h.below HB.out).ws.head]; rfl
  have k1 : (k == 1) = false := by rw [beq_eq_false_iff_ne]; exact hk
  clear h
  go_enter Try.func8, Try.ntmps8
  go_wp2_with fail
  go_ret
  exact ⟨rfl, HB.out⟩
set_option maxHeartbeats 800000 in
set_option maxRecDepth 100000 in
theorem step_other {B U n : Nat} {w : World} {W : Nat} {cs ls rs : Nat → Nat} {SC SL : Nat → Ca Value} {SR : Nat → Ca Int} {vc vl vr vo vw : Value} {O N : List (Value × List Int)} (h : Inv B U n w W cs ls rs SC SL SR vc vl vr vo vw O N) (hn : 0 < n) {k o m x : Int} (ho : (Lit.int .i64 o).wf = true) (hk : k < 1 ∨ 8 < k) :
    Calls Try.prog 8 #[ptr W, .agg #[.int .i64 k, .int .i64 o, .int .i64 m, .int .i64 x]] w fun r w' => r = .returned (.bool true) ∧ Below w.heap.size w w' := by
  have HB : Hid (Below w.heap.size w (w.alloc (.cells #[.int .i64 k, .int .i64 o, .int .i64 m, .int .i64 x] 33))) := below_new _ _
  have hi := h.below HB.out
  have hnn : n ≤ 30 := h.ws.few
  obtain ⟨gc, cc, rfl, c0, _⟩ := hi.ws.cells_c hn
  have hnz : ((n : Int) == 0) = false := by rw [beq_eq_false_iff_ne]; omega
  have HN : Hid (0 < n ∧ n ≤ 30) := ⟨hn, hnn⟩
  have HO : Hid ((Lit.int .i64 o).wf = true) := ho
  have k1 : (k == 1) = false := by rw [beq_eq_false_iff_ne]; omega
  have k2 : (k == 2) = false := by rw [beq_eq_false_iff_ne]; omega
  have k3 : (k == 3) = false := by rw [beq_eq_false_iff_ne]; omega
  have k4 : (k == 4) = false := by rw [beq_eq_false_iff_ne]; omega
  have k5 : (k == 5) = false := by rw [beq_eq_false_iff_ne]; omega
  have k6 : (k == 6) = false := by rw [beq_eq_false_iff_ne]; omega
  have k7 : (k == 7) = false := by rw [beq_eq_false_iff_ne]; omega
  have k8 : (k == 8) = false := by rw [beq_eq_false_iff_ne]; omega
  clear h hn ho hk hi
  go_enter Try.func8, Try.ntmps8
  go_wp2_with fail
  go_quiet ((go_at_call 11; exact Calls.quiet_of_same (pick_any _ o n HO.out HN.out.1 (by have := HN.out.2; omega))))
  go_wp2_with fail
  go_ret
  exact ⟨rfl, below_draws HB.out nq⟩
end Go.Proofs.Yteajgodpdfcioaa
