/- alike, bytesAt, Bytes. -/
import Derived.Test.YtgifnaahahfhbaaEnts
namespace Go.Proofs.Ytgifnaahahfhbaa
open Go.RowKit

theorem ents_get {L : List It} {i : Nat} {e : It} (h : L[i]? = some e) : (L.map It.e)[i]? = some e.e := by rw [List.getElem?_map, h]; rfl

set_option maxHeartbeats 800000 in
set_option maxRecDepth 100000 in
theorem alike_any {w : World} {v : Value} {L : List It} {i : Nat} {e : It} (hL : ListAt w.heap.size w v L) (hi : L[i]? = some e) :
    Calls Try.prog 57 #[v, .int .i64 i] w fun r w' => r = .returned (.int .i64 (comK (prevK (L.map It.e) i) e.e.k : Nat)) ∧ ∃ q, w' = w.drewN q := by
  by_cases hi0 : i = 0
  · subst hi0
    rw [prevK_zero, comK_nil]
    go_enter Try.func57, Try.ntmps57
    go_wp2
    go_ret
    exact ⟨rfl, 0, rfl⟩
  · obtain ⟨j, hj⟩ : ∃ j : Nat, i = j + 1 := ⟨i - 1, by omega⟩
    have hlen := (List.getElem?_eq_some_iff.1 hi).1
    have hsh := hL.short
    have hn1 : (i : Int) - 1 = (j : Int) := by omega
    have hn2 : (j : Int) < (L.length : Int) := by omega
    have hn3 : (i : Int) < (L.length : Int) := by omega
    have hn4 : ((i : Int) == 0) = false := by rw [beq_eq_false_iff_ne]; omega
    obtain ⟨x, hx⟩ : ∃ x, L[j]? = some x := ⟨L[j]'(by omega), List.getElem?_eq_getElem _⟩
    have HP : Hid (prevK (L.map It.e) i = x.e.k) := by rw [Hid, hj]; exact prevK_succ (ents_get hx)
    rw [HP.out]
    have HX : Hid (KeyAt w x.v1 x.e.k) := (hL.ok x (List.mem_of_getElem? hx)).k.at (Nat.le_refl _)
    have HE : Hid (KeyAt w e.v1 e.e.k) := (hL.ok e (List.mem_of_getElem? hi)).k.at (Nat.le_refl _)
    obtain ⟨g, off, c, rfl, k0, k1⟩ := hL.cells j x hx
    obtain ⟨g', off', c', e1, m0, m1⟩ := hL.cells i e hi
    cases e1
    clear hL hi hx hj
    go_enter Try.func57, Try.ntmps57
    go_wp2_with fail
    go_quiet (first
      | (go_at_call 68; exact Calls.quiet_of (common_key (HX.out.draws _) (HE.out.draws _))))
    go_wp2
    go_ret
    exact ⟨rfl, nq, rfl⟩

set_option maxHeartbeats 800000 in
set_option maxRecDepth 100000 in
theorem bytesAt_any {w : World} {v : Value} {L : List It} {i : Nat} {e : It} (hL : ListAt w.heap.size w v L) (hi : L[i]? = some e) :
    Calls Try.prog 56 #[v, .int .i64 i] w fun r w' => r = .returned (.int .i64 (enLen (prevK (L.map It.e) i) e.e : Nat)) ∧ ∃ q, w' = w.drewN q := by
  have hlen := (List.getElem?_eq_some_iff.1 hi).1
  have hsh := hL.short
  have hn3 : (i : Int) < (L.length : Int) := by omega
  have HL : Hid (ListAt w.heap.size w v L) := hL
  have HI : Hid (L[i]? = some e) := hi
  have HR := comK_right (prevK (L.map It.e) i) e.e.k
  have hs1 := (hL.ok e (List.mem_of_getElem? hi)).k.short
  have hs2 := (hL.ok e (List.mem_of_getElem? hi)).v.short
  obtain ⟨a1, c1, e1⟩ := (hL.ok e (List.mem_of_getElem? hi)).k.form
  obtain ⟨a2, c2, e2⟩ := (hL.ok e (List.mem_of_getElem? hi)).v.form
  obtain ⟨g, off, c, rfl, k0, k1⟩ := hL.cells i e hi
  rw [e1] at k0
  rw [e2] at k1
  unfold enLen
  have HA : Hid (∀ q, Calls Try.prog 57 #[.slice (some ⟨g, off, none⟩) L.length c, .int .i64 i] (w.drewN q) fun r w' => r = .returned (.int .i64 (comK (prevK (L.map It.e) i) e.e.k : Nat)) ∧ ∃ q', w' = (w.drewN q).drewN q') := fun q => alike_any (HL.out.here (below_draws (Below.refl _ _) q)) HI.out
  generalize comK (prevK (L.map It.e) i) e.e.k = K at *
  clear hL hi e1 e2
  go_enter Try.func56, Try.ntmps56
  go_wp2_with fail
  go_quiet (first
    | (go_at_call 57; exact Calls.quiet_of (HA.out _)))
  go_wp2
  go_ret
  exact ⟨ret_int (by go_num), nq, rfl⟩
end Go.Proofs.Ytgifnaahahfhbaa
