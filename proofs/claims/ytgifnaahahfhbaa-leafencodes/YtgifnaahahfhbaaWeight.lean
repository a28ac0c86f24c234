/- weight. -/
import Derived.Test.YtgifnaahahfhbaaCut
namespace Go.Proofs.Ytgifnaahahfhbaa
open Go.RowKit

set_option maxHeartbeats 1600000 in
set_option maxRecDepth 100000 in
theorem weight_any {w : World} {v : Value} {L : List It} (h : ListAt w.heap.size w v L) :
    Calls Try.prog 11 #[v] w fun e w' => (∃ s : Nat, e = .returned (.int .i64 s) ∧ s ≤ 1000000000000000 ∧ (s ≤ 2147483647 → weightE (L.map It.e) = s)) ∧ ∃ q, w' = w.drewN q := by
  have hsh := h.short
  obtain ⟨a, c, rfl⟩ := h.form
  have HL : Hid (ListAt w.heap.size w (.slice a L.length c) L) := h
  clear h
  go_enter Try.func11, Try.ntmps11
  go_wp2_with fail
  go_loopw [3, 4] (fun n i wx => ∃ k s : Nat, k ≤ L.length ∧ i = .int .i64 k ∧ n = .int .i64 s ∧ s = weightE ((L.map It.e).take k) ∧ s ≤ 2147483647 + 1 + 2 * 140737488355328 ∧ ∃ q, wx = w.drewN q) (fun _ i _ => L.length - (intOf i).toNat)
  case atStart => exact ⟨0, 0, by omega, rfl, rfl, rfl, by omega, 0, rfl⟩
  case round =>
    obtain ⟨k, s, hk, rfl, rfl, hs, hs2, q, rfl⟩ := hrel
    have HS : Hid (s = weightE ((L.map It.e).take k)) := hs
    clear hs
    by_cases hlt : k < L.length
    · have hz : (k : Int) < (L.length : Int) := by omega
      by_cases hle : s ≤ 2147483647
      · have hlez : (s : Int) ≤ 2147483647 := by omega
        obtain ⟨e, he⟩ : ∃ e, L[k]? = some e := ⟨_, List.getElem?_eq_getElem hlt⟩
        obtain ⟨g, off, c', e1, k0, k1⟩ := HL.out.cells k e he
        cases e1
        have heo := HL.out.ok e (List.mem_of_getElem? he)
        obtain ⟨a1, c1, f1⟩ := heo.k.form
        obtain ⟨a2, c2, f2⟩ := heo.v.form
        have hs3 := heo.k.short
        have hs4 := heo.v.short
        rw [f1] at k0
        rw [f2] at k1
        have HN : Hid (weightE ((L.map It.e).take (k + 1)) = s + (1 + e.e.k.length + e.e.v.length)) := by rw [Hid, weightE_take_succ (ents_get he), HS.out]
        clear he heo f1 f2
        go_wp2_with fail
        go_quiet (fail)
        go_wp2
        exact ⟨⟨k + 1, s + (1 + e.e.k.length + e.e.v.length), by omega, by go_num, by go_num, HN.out.symm, by omega, _, rfl⟩, by simp [intOf]; omega⟩
      · have hlez : ¬ (s : Int) ≤ 2147483647 := by omega
        go_wp2
        go_ret
        exact ⟨⟨s, rfl, by omega, fun h => absurd h hle⟩, q, rfl⟩
    · have hz : ¬ (k : Int) < (L.length : Int) := by omega
      have HE : Hid ((L.map It.e).take k = L.map It.e) := List.take_of_length_le (by simp; omega)
      go_wp2
      go_ret
      exact ⟨⟨s, rfl, by omega, fun _ => by rw [HS.out, HE.out]⟩, q, rfl⟩
end Go.Proofs.Ytgifnaahahfhbaa
