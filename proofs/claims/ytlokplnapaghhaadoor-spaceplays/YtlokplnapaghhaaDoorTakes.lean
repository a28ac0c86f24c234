/- firstFree, firstUsed, Take, Free, Alloc, use, New. -/
import Derived.Test.YtlokplnapaghhaaDoorUsed
import Derived.Laws.Tables
namespace Go.Proofs.YtlokplnapaghhaaDoor
open Go.RowKit

theorem lid_true : ((lid true).toNat : Int) = 0 := by decide
theorem lid_false : ((lid false).toNat : Int) = 18446744073709551615 := by decide
theorem firstFree_any (w : World) (b : Nat) (s : Sp) (h : SpaceAt w b s) (ht : Tab w) (m : Nat) (hm : m ≤ s.n) :
    Calls Tryd.prog 42 #[.pointer (some ⟨b, 0, none⟩), .int .i64 m] w fun e w' => e = .returned (.int .i64 (s.next false m : Int)) ∧ w' = w := by
  have HF := first_any w b s h ht m hm false
  rw [lid_false] at HF
  clear h ht
  go_enter Tryd.func42, Tryd.ntmps42
  go_wp2_with (go_at_call 48; refine HF.mono ?_; rintro e w' ⟨rfl, rfl⟩)
  go_ret
  exact ⟨rfl, rfl⟩
theorem firstUsed_any (w : World) (b : Nat) (s : Sp) (h : SpaceAt w b s) (ht : Tab w) (m : Nat) (hm : m ≤ s.n) :
    Calls Tryd.prog 47 #[.pointer (some ⟨b, 0, none⟩), .int .i64 m] w fun e w' => e = .returned (.int .i64 (s.next true m : Int)) ∧ w' = w := by
  have HF := first_any w b s h ht m hm true
  rw [lid_true] at HF
  clear h ht
  go_enter Tryd.func47, Tryd.ntmps47
  go_wp2_with (go_at_call 48; refine HF.mono ?_; rintro e w' ⟨rfl, rfl⟩)
  go_ret
  exact ⟨rfl, rfl⟩

def Sp.takeE (s : Sp) (z : Int) : Int := if inB z s.n then (if s.has z.toNat then 94 else 0) else 91
def Sp.takeS (s : Sp) (z : Int) : Sp := if inB z s.n then (if s.has z.toNat then s else s.turn z.toNat) else s
def Sp.freeE (s : Sp) (z : Int) : Int := if inB z s.n then (if s.has z.toNat then 0 else 92) else 91
def Sp.freeS (s : Sp) (z : Int) : Sp := if inB z s.n then (if s.has z.toNat then s.turn z.toNat else s) else s
theorem inB_true {z : Int} {n : Nat} (h : inB z n = true) : ∃ k : Nat, z = k ∧ k < n := by
  simp only [inB, Bool.and_eq_true, decide_eq_true_eq] at h
  exact ⟨z.toNat, by omega, by omega⟩
theorem inB_nat {k n : Nat} (h : k < n) : inB k n = true := by
  simp only [inB, Bool.and_eq_true, decide_eq_true_eq]; omega

theorem take_any (w : World) (b : Nat) (s : Sp) (h : SpaceAt w b s) (z : Int) :
    Calls Tryd.prog 25 #[.pointer (some ⟨b, 0, none⟩), .int .i64 z] w fun e w' => e = .returned (.int .i64 (s.takeE z)) ∧ SpaceAt w' b (s.takeS z) ∧ Kept (fun i => i = b) w w' := by
  have HT := there_any w b s h z
  have HH := has_any w b s h z
  have H : Hid (SpaceAt w b s) := h
  cases hz : inB z s.n with
  | false =>
    have e1 : s.takeE z = 91 := by simp [Sp.takeE, hz]
    have e2 : s.takeS z = s := by simp [Sp.takeS, hz]
    rw [e1, e2]
    rw [hz] at HT
    clear h e1 e2 hz HH
    go_enter Tryd.func25, Tryd.ntmps25
    go_wp2_with (go_at_call 44; refine HT.mono ?_; rintro e w' ⟨rfl, rfl⟩)
    go_ret
    exact ⟨rfl, H.out, Kept.refl _ _⟩
  | true =>
    obtain ⟨k, rfl, hk⟩ := inB_true hz
    have eH : s.hasI k = s.has k := by simp [Sp.hasI, hz]
    rw [eH] at HH
    rw [hz] at HT
    cases hh : s.has k with
    | true =>
      have e1 : s.takeE k = 94 := by simp [Sp.takeE, hz, hh]
      have e2 : s.takeS k = s := by simp [Sp.takeS, hz, hh]
      rw [e1, e2]
      rw [hh] at HH
      clear h e1 e2 hz eH
      go_enter Tryd.func25, Tryd.ntmps25
      go_wp2_with (first | (go_at_call 44; refine HT.mono ?_; rintro e w' ⟨rfl, rfl⟩) | (go_at_call 23; refine HH.mono ?_; rintro e w' ⟨rfl, rfl⟩))
      go_ret
      exact ⟨rfl, H.out, Kept.refl _ _⟩
    | false =>
      have e1 : s.takeE k = 0 := by simp [Sp.takeE, hz, hh]
      have e2 : s.takeS k = s.turn k := by simp [Sp.takeS, hz, hh]
      rw [e1, e2]
      rw [hh] at HH
      have HU := turn_any w b s h k hk
      clear h e1 e2 hz eH
      go_enter Tryd.func25, Tryd.ntmps25
      go_wp2_with (first | (go_at_call 44; refine HT.mono ?_; rintro e w' ⟨rfl, rfl⟩) | (go_at_call 23; refine HH.mono ?_; rintro e w' ⟨rfl, rfl⟩) | (go_at_call 43; refine HU.mono ?_; rintro e w' ⟨rfl, hs', hk'⟩))
      go_ret
      exact ⟨rfl, hs', hk'⟩
theorem free_any (w : World) (b : Nat) (s : Sp) (h : SpaceAt w b s) (z : Int) :
    Calls Tryd.prog 24 #[.pointer (some ⟨b, 0, none⟩), .int .i64 z] w fun e w' => e = .returned (.int .i64 (s.freeE z)) ∧ SpaceAt w' b (s.freeS z) ∧ Kept (fun i => i = b) w w' := by
  have HT := there_any w b s h z
  have HH := has_any w b s h z
  have H : Hid (SpaceAt w b s) := h
  cases hz : inB z s.n with
  | false =>
    have e1 : s.freeE z = 91 := by simp [Sp.freeE, hz]
    have e2 : s.freeS z = s := by simp [Sp.freeS, hz]
    rw [e1, e2]
    rw [hz] at HT
    clear h e1 e2 hz HH
    go_enter Tryd.func24, Tryd.ntmps24
    go_wp2_with (go_at_call 44; refine HT.mono ?_; rintro e w' ⟨rfl, rfl⟩)
    go_ret
    exact ⟨rfl, H.out, Kept.refl _ _⟩
  | true =>
    obtain ⟨k, rfl, hk⟩ := inB_true hz
    have eH : s.hasI k = s.has k := by simp [Sp.hasI, hz]
    rw [eH] at HH
    rw [hz] at HT
    cases hh : s.has k with
    | false =>
      have e1 : s.freeE k = 92 := by simp [Sp.freeE, hz, hh]
      have e2 : s.freeS k = s := by simp [Sp.freeS, hz, hh]
      rw [e1, e2]
      rw [hh] at HH
      clear h e1 e2 hz eH
      go_enter Tryd.func24, Tryd.ntmps24
      go_wp2_with (first | (go_at_call 44; refine HT.mono ?_; rintro e w' ⟨rfl, rfl⟩) | (go_at_call 23; refine HH.mono ?_; rintro e w' ⟨rfl, rfl⟩))
      go_ret
      exact ⟨rfl, H.out, Kept.refl _ _⟩
    | true =>
      have e1 : s.freeE k = 0 := by simp [Sp.freeE, hz, hh]
      have e2 : s.freeS k = s.turn k := by simp [Sp.freeS, hz, hh]
      rw [e1, e2]
      rw [hh] at HH
      have HU := turn_any w b s h k hk
      clear h e1 e2 hz eH
      go_enter Tryd.func24, Tryd.ntmps24
      go_wp2_with (first | (go_at_call 44; refine HT.mono ?_; rintro e w' ⟨rfl, rfl⟩) | (go_at_call 23; refine HH.mono ?_; rintro e w' ⟨rfl, rfl⟩) | (go_at_call 43; refine HU.mono ?_; rintro e w' ⟨rfl, hs', hk'⟩))
      go_ret
      exact ⟨rfl, hs', hk'⟩

/-- The least free block; how many there are, if none is free. -/
def Sp.least (s : Sp) : Nat := s.next false 0
def Sp.allocE (s : Sp) : Int := if s.least < s.n then 0 else 2
def Sp.allocN (s : Sp) : Int := if s.least < s.n then s.least else 0
def Sp.allocS (s : Sp) : Sp := if s.least < s.n then s.turn s.least else s
theorem alloc_any (w : World) (b : Nat) (s : Sp) (h : SpaceAt w b s) (ht : Tab w) :
    Calls Tryd.prog 22 #[.pointer (some ⟨b, 0, none⟩)] w fun e w' => e = .returned (.tuple #[.int .i64 s.allocN, .int .i64 s.allocE]) ∧ SpaceAt w' b s.allocS ∧ Kept (fun i => i = b) w w' := by
  have HF := firstFree_any w b s h ht 0 (Nat.zero_le _)
  have HX : Hid (IsNx s.has false s.n 0 s.least) := s.next_is false (Nat.zero_le _)
  have c0 := h.count
  have H : Hid (SpaceAt w b s) := h
  have hle := HX.out.top
  have h1 := h.ok.high
  change Calls _ _ _ w (fun e w' => e = .returned (.int .i64 (s.least : Int)) ∧ w' = w) at HF
  by_cases hl : s.least < s.n
  · have e1 : s.allocE = 0 := by simp [Sp.allocE, hl]
    have e2 : s.allocN = s.least := by simp [Sp.allocN, hl]
    have e3 : s.allocS = s.turn s.least := by simp [Sp.allocS, hl]
    rw [e1, e2, e3]
    have HU := turn_any w b s h s.least hl
    have hne : ((s.least : Int) == (s.n : Int)) = false := by rw [beq_eq_false_iff_ne]; omega
    generalize s.least = k at HF HU hl hle hne
    clear h e1 e2 e3 ht
    go_enter Tryd.func22, Tryd.ntmps22
    go_wp2_with (first | (go_at_call 42; refine HF.mono ?_; rintro e w' ⟨rfl, rfl⟩) | (go_at_call 43; refine HU.mono ?_; rintro e w' ⟨rfl, hs', hk'⟩))
    go_ret2
    exact ⟨rfl, hs', hk'⟩
  · have e1 : s.allocE = 2 := by simp [Sp.allocE, hl]
    have e2 : s.allocN = 0 := by simp [Sp.allocN, hl]
    have e3 : s.allocS = s := by simp [Sp.allocS, hl]
    rw [e1, e2, e3]
    have hne : ((s.least : Int) == (s.n : Int)) = true := by rw [beq_iff_eq]; omega
    generalize s.least = k at HF hl hle hne
    clear h e1 e2 e3 ht
    go_enter Tryd.func22, Tryd.ntmps22
    go_wp2_with (first | (go_at_call 42; refine HF.mono ?_; rintro e w' ⟨rfl, rfl⟩))
    go_ret2
    exact ⟨rfl, H.out, Kept.refl _ _⟩

set_option maxHeartbeats 800000 in
theorem use_any (w : World) (b : Nat) (s : Sp) (h : SpaceAt w b s) (a c : Nat) (hc : a + c ≤ s.n) :
    Calls Tryd.prog 28 #[.pointer (some ⟨b, 0, none⟩), .agg #[.int .i64 a, .int .i64 c]] w fun e w' => e = .returned (.tuple #[]) ∧ SpaceAt w' b (s.use a c) ∧ Kept (fun i => i = b) w w' := by
  have h1 := h.ok.high
  have hlt := h.lt
  have H : Hid (SpaceAt w b s) := h
  obtain ⟨w0, hw0⟩ : ∃ w0, w0 = w.alloc (.cells #[.int .i64 (a : Int), .int .i64 (c : Int)] 64) := ⟨_, rfl⟩
  have hb0 : Below w.heap.size w w0 := by rw [hw0]; exact (Below.refl _ _).alloc (Nat.le_refl _) _
  have hcell : w0.heap[w.heap.size]? = some (.cells #[.int .i64 (a : Int), .int .i64 (c : Int)] 64 (0, 0)) := by rw [hw0]; exact heap_alloc_last _ _
  have ca : w0.cell? ⟨w.heap.size, 0, none⟩ = some (.int .i64 (a : Int)) := row_cell hcell 0
  have cc : w0.cell? ⟨w.heap.size, 1, none⟩ = some (.int .i64 (c : Int)) := row_cell hcell 1
  have h0 : SpaceAt w0 b s := h.below hb0
  have H0 : Hid (SpaceAt w0 b s) := h0
  have HB : Hid (Below w.heap.size w w0) := hb0
  clear h h0 hb0
  go_enter Tryd.func28, Tryd.ntmps28
  go_wp2
  rw [← hw0]
  clear hw0
  go_wp2
  go_loopw [7] (fun i wx => ∃ k : Nat, k ≤ c ∧ i = .int .i64 k ∧ SpaceAt wx b (s.use a k) ∧ Kept (fun i => i = b) w0 wx) (fun i _ => c - (intOf i).toNat)
  case atStart => exact ⟨0, by omega, rfl, H0.out, Kept.refl _ _⟩
  case round =>
    obtain ⟨k, hk, rfl, hs, hkp⟩ := hrel
    by_cases hlt2 : k < c
    · have hltz : (k : Int) < (c : Int) := by omega
      have HU := turn_any wr b _ hs (a + k) (by rw [Sp.use_n]; omega)
      have ca2 : wr.cell? ⟨w.heap.size, 0, none⟩ = some (.int .i64 (a : Int)) := by
        have := hkp.block w.heap.size (by have := (Array.getElem?_eq_some_iff.1 hcell).1; exact this) (by omega)
        rw [row_cell (this.trans hcell)]; rfl
      have HK : Hid _ := hkp
      clear hs hkp
      go_wp2_with (go_at_call 43; refine HU.mono ?_; rintro e w' ⟨rfl, hs', hk'⟩)
      exact ⟨⟨k + 1, by omega, by go_num, hs', HK.out.trans hk' (fun _ _ x => x)⟩, by simp [intOf]; omega⟩
    · have hltz : ¬ (k : Int) < (c : Int) := by omega
      have HE : Hid (k = c) := by show _ = _; omega
      have HS : Hid _ := hs
      have HK : Hid _ := hkp
      clear hs hkp
      go_wp2
      go_end0
      exact ⟨rfl, by rw [← HE.out]; exact HS.out, (Kept.of_below HB.out).trans HK.out (fun _ _ x => x)⟩
end Go.Proofs.YtlokplnapaghhaaDoor
