/- The document's space: a row of yes and no. -/
import Derived.Test.YtlokplnapaghhaaDoorDecode
namespace Go.Proofs.YtlokplnapaghhaaDoor
open Go.RowKit

/-- The document's space of block b, its row in block g, alike s. -/
structure RefAt (w : World) (b g c : Nat) (s : Sp) : Prop where
  box : w.heap[b]? = some (.cells #[.slice (some ⟨g, 0, none⟩) s.n c] 66 (0, 0))
  row : ∃ cur, w.heap[g]? = some (.cells cur 4 (0, 0)) ∧ ∀ i, i < s.n → cur[i]? = some (.bool (s.has i))
  le : s.n ≤ c
  ok : s.Ok
theorem RefAt.lt {w : World} {b g c : Nat} {s : Sp} (h : RefAt w b g c s) : b < w.heap.size := (Array.getElem?_eq_some_iff.1 h.box).1
theorem RefAt.ltg {w : World} {b g c : Nat} {s : Sp} (h : RefAt w b g c s) : g < w.heap.size := by
  obtain ⟨cur, hc, _⟩ := h.row
  exact (Array.getElem?_eq_some_iff.1 hc).1
theorem RefAt.cell {w : World} {b g c : Nat} {s : Sp} (h : RefAt w b g c s) : w.cell? ⟨b, 0, none⟩ = some (.slice (some ⟨g, 0, none⟩) s.n c) := by
  rw [row_cell h.box]; rfl
theorem RefAt.at {w : World} {b g c : Nat} {s : Sp} (h : RefAt w b g c s) {i : Nat} (hi : i < s.n) : w.cell? ⟨g, i, none⟩ = some (.bool (s.has i)) := by
  obtain ⟨cur, hc, hx⟩ := h.row
  rw [row_cell hc, hx i hi]
theorem RefAt.open {w : World} {b g c : Nat} {s : Sp} (h : RefAt w b g c s) (i : Nat) : w.frozen? ⟨g, i, none⟩ = false := by
  obtain ⟨cur, hc, _⟩ := h.row
  exact row_frozen hc i
theorem RefAt.apart {w : World} {b g c : Nat} {s : Sp} (h : RefAt w b g c s) : b ≠ g := by
  rintro rfl
  obtain ⟨cur, hc, _⟩ := h.row
  rw [h.box] at hc
  simp at hc
theorem RefAt.kept {S : Nat → Prop} {w w' : World} {b g c : Nat} {s : Sp} (h : RefAt w b g c s) (k : Kept S w w') (hb : ¬ S b) (hg : ¬ S g) : RefAt w' b g c s := by
  obtain ⟨cur, hc, hx⟩ := h.row
  exact ⟨by rw [k.block b h.lt hb]; exact h.box, ⟨cur, by rw [k.block g h.ltg hg]; exact hc, hx⟩, h.le, h.ok⟩
theorem RefAt.below {w w' : World} {b g c : Nat} {s : Sp} (h : RefAt w b g c s) (k : Below w.heap.size w w') : RefAt w' b g c s := h.kept (S := fun _ => False) (Kept.of_below k) id id
theorem RefAt.set {w : World} {b g c : Nat} {s t : Sp} (h : RefAt w b g c s) {i : Nat} (hi : i < s.n) (x : Bool) (hn : t.n = s.n) (hok : t.Ok) (hV : ∀ j, j < s.n → t.has j = if j = i then x else s.has j) : RefAt (w.setCell ⟨g, i, none⟩ (.bool x)) b g c t := by
  obtain ⟨cur, hc, hx⟩ := h.row
  have hk := setCell_kept (w := w) (b := g) (i := i) (.bool x)
  refine ⟨?_, ⟨_, heap_set_same _ hc, fun j hj => ?_⟩, by rw [hn]; exact h.le, hok⟩
  · rw [hk.block b h.lt h.apart, hn]; exact h.box
  · have hj' : j < s.n := by omega
    rw [Array.getElem?_setIfInBounds, hV j hj']
    have hl := (Array.getElem?_eq_some_iff.1 (hx i hi)).1
    by_cases e : i = j
    · subst e; rw [if_pos rfl, if_pos hl, if_pos rfl]
    · rw [if_neg e, if_neg (Ne.symm e)]; exact hx j hj'
theorem RefAt.turn {w : World} {b g c : Nat} {s : Sp} (h : RefAt w b g c s) {i : Nat} (hi : i < s.n) : RefAt (w.setCell ⟨g, i, none⟩ (.bool (!s.has i))) b g c (s.turn i) :=
  h.set hi _ rfl (h.ok.turn hi) (fun j _ => Sp.has_turn s i j)

theorem rtake_any (w : World) (b g c : Nat) (s : Sp) (h : RefAt w b g c s) (z : Int) :
    Calls Tryd.prog 30 #[.pointer (some ⟨b, 0, none⟩), .int .i64 z] w fun e w' => e = .returned (.int .i64 (s.takeE z)) ∧ RefAt w' b g c (s.takeS z) ∧ Kept (fun i => i = g) w w' := by
  have c0 := h.cell
  have h65 := h.ok.high
  have H : Hid (RefAt w b g c s) := h
  cases hz : inB z s.n with
  | false =>
    have e1 : s.takeE z = 91 := by simp [Sp.takeE, hz]
    have e2 : s.takeS z = s := by simp [Sp.takeS, hz]
    rw [e1, e2]
    by_cases h0 : z < 0
    · clear h e1 e2 hz
      go_enter Tryd.func30, Tryd.ntmps30
      go_wp2
      go_ret
      exact ⟨rfl, H.out, Kept.refl _ _⟩
    · have h1 : (s.n : Int) ≤ z := by
        simp only [inB, Bool.and_eq_false_iff, decide_eq_false_iff_not] at hz
        omega
      clear h e1 e2 hz
      go_enter Tryd.func30, Tryd.ntmps30
      go_wp2
      go_ret
      exact ⟨rfl, H.out, Kept.refl _ _⟩
  | true =>
    obtain ⟨k, rfl, hk⟩ := inB_true hz
    have h0 : ¬ (k : Int) < 0 := by omega
    have h1 : ¬ (s.n : Int) ≤ (k : Int) := by omega
    have hkz : (k : Int) < (s.n : Int) := by omega
    have hat := h.at hk
    have hop := h.open k
    cases hh : s.has k with
    | true =>
      have e1 : s.takeE k = 94 := by simp [Sp.takeE, hz, hh]
      have e2 : s.takeS k = s := by simp [Sp.takeS, hz, hh]
      rw [e1, e2]
      rw [hh] at hat
      clear h e1 e2 hz hh
      go_enter Tryd.func30, Tryd.ntmps30
      go_wp2
      go_ret
      exact ⟨rfl, H.out, Kept.refl _ _⟩
    | false =>
      have e1 : s.takeE k = 0 := by simp [Sp.takeE, hz, hh]
      have e2 : s.takeS k = s.turn k := by simp [Sp.takeS, hz, hh]
      rw [e1, e2]
      rw [hh] at hat
      have ht := h.turn hk
      rw [hh] at ht
      have HT : Hid (RefAt (w.setCell ⟨g, k, none⟩ (.bool true)) b g c (s.turn k)) := ht
      clear h e1 e2 hz hh ht
      go_enter Tryd.func30, Tryd.ntmps30
      go_wp2
      go_ret
      exact ⟨rfl, HT.out, setCell_kept _⟩
theorem rfree_any (w : World) (b g c : Nat) (s : Sp) (h : RefAt w b g c s) (z : Int) :
    Calls Tryd.prog 31 #[.pointer (some ⟨b, 0, none⟩), .int .i64 z] w fun e w' => e = .returned (.int .i64 (s.freeE z)) ∧ RefAt w' b g c (s.freeS z) ∧ Kept (fun i => i = g) w w' := by
  have c0 := h.cell
  have h65 := h.ok.high
  have H : Hid (RefAt w b g c s) := h
  cases hz : inB z s.n with
  | false =>
    have e1 : s.freeE z = 91 := by simp [Sp.freeE, hz]
    have e2 : s.freeS z = s := by simp [Sp.freeS, hz]
    rw [e1, e2]
    by_cases h0 : z < 0
    · clear h e1 e2 hz
      go_enter Tryd.func31, Tryd.ntmps31
      go_wp2
      go_ret
      exact ⟨rfl, H.out, Kept.refl _ _⟩
    · have h1 : (s.n : Int) ≤ z := by
        simp only [inB, Bool.and_eq_false_iff, decide_eq_false_iff_not] at hz
        omega
      clear h e1 e2 hz
      go_enter Tryd.func31, Tryd.ntmps31
      go_wp2
      go_ret
      exact ⟨rfl, H.out, Kept.refl _ _⟩
  | true =>
    obtain ⟨k, rfl, hk⟩ := inB_true hz
    have h0 : ¬ (k : Int) < 0 := by omega
    have h1 : ¬ (s.n : Int) ≤ (k : Int) := by omega
    have hkz : (k : Int) < (s.n : Int) := by omega
    have hat := h.at hk
    have hop := h.open k
    cases hh : s.has k with
    | false =>
      have e1 : s.freeE k = 92 := by simp [Sp.freeE, hz, hh]
      have e2 : s.freeS k = s := by simp [Sp.freeS, hz, hh]
      rw [e1, e2]
      rw [hh] at hat
      clear h e1 e2 hz hh
      go_enter Tryd.func31, Tryd.ntmps31
      go_wp2
      go_ret
      exact ⟨rfl, H.out, Kept.refl _ _⟩
    | true =>
      have e1 : s.freeE k = 0 := by simp [Sp.freeE, hz, hh]
      have e2 : s.freeS k = s.turn k := by simp [Sp.freeS, hz, hh]
      rw [e1, e2]
      rw [hh] at hat
      have ht := h.turn hk
      rw [hh] at ht
      have HT : Hid (RefAt (w.setCell ⟨g, k, none⟩ (.bool false)) b g c (s.turn k)) := ht
      clear h e1 e2 hz hh ht
      go_enter Tryd.func31, Tryd.ntmps31
      go_wp2
      go_ret
      exact ⟨rfl, HT.out, setCell_kept _⟩
theorem rhas_any (w : World) (b g c : Nat) (s : Sp) (h : RefAt w b g c s) (z : Int) :
    Calls Tryd.prog 32 #[.pointer (some ⟨b, 0, none⟩), .int .i64 z] w fun e w' => e = .returned (.bool (s.hasI z)) ∧ w' = w := by
  have c0 := h.cell
  have h65 := h.ok.high
  cases hz : inB z s.n with
  | false =>
    have e1 : s.hasI z = false := by simp [Sp.hasI, hz]
    rw [e1]
    by_cases h0 : 0 ≤ z
    · have h1 : ¬ z < (s.n : Int) := by
        simp only [inB, Bool.and_eq_false_iff, decide_eq_false_iff_not] at hz
        omega
      clear h e1 hz
      go_enter Tryd.func32, Tryd.ntmps32
      go_wp2
      go_ret
      exact ⟨rfl, rfl⟩
    · clear h e1 hz
      go_enter Tryd.func32, Tryd.ntmps32
      go_wp2
      go_ret
      exact ⟨rfl, rfl⟩
  | true =>
    obtain ⟨k, rfl, hk⟩ := inB_true hz
    have h0 : (0 : Int) ≤ (k : Int) := by omega
    have hkz : (k : Int) < (s.n : Int) := by omega
    have hat := h.at hk
    have e1 : s.hasI k = s.has k := by simp [Sp.hasI, hz]
    rw [e1]
    clear h e1 hz
    go_enter Tryd.func32, Tryd.ntmps32
    go_wp2
    go_ret
    exact ⟨rfl, rfl⟩
set_option maxHeartbeats 800000 in
theorem ralloc_any (w : World) (b g c : Nat) (s : Sp) (h : RefAt w b g c s) :
    Calls Tryd.prog 46 #[.pointer (some ⟨b, 0, none⟩)] w fun e w' => e = .returned (.tuple #[.int .i64 s.allocN, .int .i64 s.allocE]) ∧ RefAt w' b g c s.allocS ∧ Kept (fun i => i = g) w w' := by
  have c0 := h.cell
  have h65 := h.ok.high
  have H : Hid (RefAt w b g c s) := h
  clear h
  go_enter Tryd.func46, Tryd.ntmps46
  go_wp2
  go_loop [4] (fun i => ∃ k : Nat, k ≤ s.n ∧ i = .int .i64 k ∧ ∀ j, j < k → s.has j = true) (fun i => 65536 - (intOf i).toNat)
  case atStart => exact ⟨0, by omega, rfl, fun j hj => by omega⟩
  case round =>
    obtain ⟨k, hk, rfl, hno⟩ := hrel
    have HN : Hid _ := hno
    clear hno
    by_cases hlt : k < s.n
    · have hltz : (k : Int) < (s.n : Int) := by omega
      have hat := H.out.at hlt
      have hop := H.out.open k
      cases hh : s.has k with
      | true =>
        rw [hh] at hat
        have HH : Hid (s.has k = true) := hh
        clear hh
        go_wp2
        exact ⟨⟨k + 1, by omega, by go_num, fun j hj => if e : j = k then by rw [e]; exact HH.out else HN.out j (by omega)⟩, by simp [intOf]; omega⟩
      | false =>
        rw [hh] at hat
        have hle : s.least = k := s.least_is.uniq ⟨by omega, by omega, fun j _ hj => HN.out j hj, fun _ => hh⟩
        have HE : Hid (s.allocN = k ∧ s.allocE = 0 ∧ s.allocS = s.turn k) := by
          refine ⟨?_, ?_, ?_⟩
          · rw [Sp.allocN, hle, if_pos hlt]
          · rw [Sp.allocE, hle, if_pos hlt]
          · rw [Sp.allocS, hle, if_pos hlt]
        have ht := H.out.turn hlt
        rw [hh] at ht
        have HT : Hid (RefAt (w.setCell ⟨g, k, none⟩ (.bool true)) b g c (s.turn k)) := ht
        clear hh hle ht
        go_wp2
        go_ret2
        obtain ⟨e1, e2, e3⟩ := HE.out
        rw [e1, e2, e3]
        exact ⟨rfl, HT.out, setCell_kept _⟩
    · have hltz : ¬ (k : Int) < (s.n : Int) := by omega
      have hle : s.least = s.n := s.least_is.uniq ⟨by omega, Nat.le_refl _, fun j _ hj => HN.out j (by omega), fun h => by omega⟩
      have HE : Hid (s.allocN = 0 ∧ s.allocE = 2 ∧ s.allocS = s) := by
        have hl : ¬ s.least < s.n := by omega
        exact ⟨by rw [Sp.allocN, if_neg hl], by rw [Sp.allocE, if_neg hl], by rw [Sp.allocS, if_neg hl]⟩
      clear hle
      go_wp2
      go_ret2
      obtain ⟨e1, e2, e3⟩ := HE.out
      rw [e1, e2, e3]
      exact ⟨rfl, H.out, Kept.refl _ _⟩
end Go.Proofs.YtlokplnapaghhaaDoor
