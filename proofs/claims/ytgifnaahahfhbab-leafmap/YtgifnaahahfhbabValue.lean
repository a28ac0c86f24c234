/- The law's own value: of a key, in entries. -/
import Derived.Test.YtgifnaahahfhbabSet
namespace Go.Proofs.Ytgifnaahahfhbab
open Go.RowKit

def valE (l : List En) (k : Key) : Option Key := (l.find? fun e => decide (e.k = k)).map En.v
theorem valE_none {l : List En} {k : Key} (h : ∀ e ∈ l, e.k ≠ k) : valE l k = none := by
  unfold valE
  rw [List.find?_eq_none.2 (fun e he => by simpa using h e he)]
  rfl
theorem valE_at {l : List En} {k : Key} {i : Nat} {e : En} (hi : l[i]? = some e) (he : e.k = k) (h : ∀ e ∈ l.take i, e.k ≠ k) : valE l k = some e.v := by
  unfold valE
  have hl := (List.getElem?_eq_some_iff.1 hi).1
  have h1 : l = l.take i ++ e :: l.drop (i + 1) := by
    have := List.take_append_drop i l
    rw [List.drop_eq_getElem_cons hl, (List.getElem?_eq_some_iff.1 hi).2] at this
    exact this.symm
  rw [h1, List.find?_append, List.find?_eq_none.2 (fun e he => by simpa using h e he)]
  simp [he]

set_option maxHeartbeats 1600000 in
set_option maxRecDepth 100000 in
theorem value_any {w : World} {v u : Value} {L : List It} {key : Key} (hL : ListAt w.heap.size w v L) (hu : KeyAt w u key) :
    Calls Try.prog 16 #[v, u] w fun e w' => e = .returned (.tuple #[.string (strB ((valE (L.map It.e) key).getD [])), .bool (valE (L.map It.e) key).isSome]) ∧ ∃ q, w' = w.drewN q := by
  have hs1 := hL.short
  obtain ⟨a, c, rfl⟩ := hL.form
  have HL : Hid (ListAt w.heap.size w (.slice a L.length c) L) := hL
  have e0 : ∀ q, Sem.run Try.prog (convert 23 9 u) (w.drewN q) = .ok (.string (strB key)) (w.drewN q) := fun q => conv_key (hu.draws q)
  clear hL hu
  go_enter Try.func16, Try.ntmps16
  go_wp2_with fail
  go_loopw [6] (fun i wx => ∃ k : Nat, k ≤ L.length ∧ i = .int .i64 k ∧ (∀ e ∈ (L.map It.e).take k, e.k ≠ key) ∧ ∃ q, wx = w.drewN q) (fun i _ => L.length - (intOf i).toNat)
  case atStart => exact ⟨0, by omega, rfl, fun e he => by simp at he, 0, rfl⟩
  case round =>
    obtain ⟨k, hk, rfl, hno, q, rfl⟩ := hrel
    have HNO : Hid (∀ e ∈ (L.map It.e).take k, e.k ≠ key) := hno
    clear hno
    by_cases hlt : k < L.length
    · have hz : (k : Int) < (L.length : Int) := by omega
      obtain ⟨e, he⟩ : ∃ e, L[k]? = some e := ⟨_, List.getElem?_eq_getElem hlt⟩
      obtain ⟨g, off, c', e1, k0, k1⟩ := HL.out.cells k e he
      cases e1
      have heo := HL.out.ok e (List.mem_of_getElem? he)
      have e1 : ∀ q, Sem.run Try.prog (convert 23 9 e.v1) (w.drewN q) = .ok (.string (strB e.e.k)) (w.drewN q) := fun q => conv_key ((heo.k.at (Nat.le_refl _)).draws q)
      have e2 : ∀ q, Sem.run Try.prog (convert 23 9 e.v2) (w.drewN q) = .ok (.string (strB e.e.v)) (w.drewN q) := fun q => conv_key ((heo.v.at (Nat.le_refl _)).draws q)
      have s1 := strB_eq e.e.k key
      have hee := ents_get he
      have HEE : Hid ((L.map It.e)[k]? = some e.e) := hee
      clear heo he hee
      by_cases hek : e.e.k = key
      · have HV : Hid (valE (L.map It.e) key = some e.e.v) := valE_at HEE.out hek HNO.out
        rw [decide_eq_true hek] at s1
        clear hek
        generalize strB e.e.k = S1 at e1 s1
        generalize strB key = S2 at e0 s1
        go_wp2_with fail
        go_quiet (fail)
        go_wp2
        go_ret2
        exact ⟨by rw [HV.out]; rfl, _, rfl⟩
      · have HNX : Hid (∀ e ∈ (L.map It.e).take (k + 1), e.k ≠ key) := by
          intro x hx
          rw [List.take_add_one, HEE.out] at hx
          rcases List.mem_append.1 hx with h | h
          · exact HNO.out x h
          · simp at h; rw [h]; exact hek
        rw [decide_eq_false hek] at s1
        clear hek
        generalize strB e.e.k = S1 at e1 s1
        generalize strB key = S2 at e0 s1
        go_wp2_with fail
        go_quiet (fail)
        go_wp2
        exact ⟨⟨k + 1, by omega, by go_num, HNX.out, _, rfl⟩, by simp [intOf]; omega⟩
    · have hz : ¬ (k : Int) < (L.length : Int) := by omega
      have HV : Hid (valE (L.map It.e) key = none) := valE_none (fun e he => HNO.out e (by rw [List.take_of_length_le (by simp; omega)]; exact he))
      go_wp2
      go_ret2
      exact ⟨by rw [HV.out]; rfl, q, rfl⟩
end Go.Proofs.Ytgifnaahahfhbab
