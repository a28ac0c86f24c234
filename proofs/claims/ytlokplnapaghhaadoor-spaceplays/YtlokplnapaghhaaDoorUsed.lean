/- Used, Left. -/
import Derived.Test.YtlokplnapaghhaaDoorOnes
namespace Go.Proofs.YtlokplnapaghhaaDoor
open Go.RowKit

theorem cnt_beyond {U : Nat → Bool} {n : Nat} (h : ∀ k, n ≤ k → U k = false) (d : Nat) : cnt U (n + d) = cnt U n := by
  induction d with
  | zero => rfl
  | succ d ih => rw [← Nat.add_assoc, cnt, ih, h _ (by omega)]; rfl
theorem cnt_words (f : Ws) (i : Nat) : cnt (bit f) (64 * (i + 1)) = cnt (bit f) (64 * i) + pc (f i).toNat 64 := by
  rw [pc_cnt, show 64 * (i + 1) = 64 * i + 64 by omega, cnt_add]
theorem draws_add (w : World) (p q : Nat) : (w.drewN p).drewN q = w.drewN (p + q) := by
  simp [World.drewN, Nat.add_assoc]
theorem len_words : Tryd.prog.arrayLen 59 = 1024 := by kernel_rfl
theorem elem_words : Tryd.prog.elem 59 = 58 := by kernel_rfl
theorem slice_words (w : World) (b C : Nat) (h : C ≤ 1024) : (Instr.sliceAt 59 (.pointer (some ⟨b, 1, none⟩)) none (some (.int .i64 (C : Int))) none).run Tryd.prog w = .ok (.slice (some ⟨b, 1, none⟩) C 1024) w := by
  rw [run_sliceAt_array_h w 59 _ (by rw [len_words, elem_words]; exact Tryd.underlying59) .i64 (C : Int) (by omega) (by rw [len_words]; omega), elem_words, Tryd.sizeOf58]
  simp [Result.andThen, slicedAt, len_words, Addr.add]
set_option maxHeartbeats 800000 in
theorem used_any (w : World) (b : Nat) (s : Sp) (h : SpaceAt w b s) :
    Calls Tryd.prog 16 #[.pointer (some ⟨b, 0, none⟩)] w fun e w' => e = .returned (.int .i64 (s.used : Int)) ∧ ∃ q, w' = w.drewN q := by
  have h1 := h.ok.high
  have h2 := h.ok.low
  have c0 := h.count
  have hs := h.cells
  have H : Hid (SpaceAt w b s) := h
  obtain ⟨C, hC⟩ : ∃ C, C = (s.n + 63) / 64 := ⟨_, rfl⟩
  have HR : Hid (s.used = cnt (bit s.f) (64 * C)) := by
    show _ = _
    rw [show 64 * C = s.n + (64 * C - s.n) by omega, cnt_beyond h.ok.zero]
    rfl
  have hC2 : C ≤ 1024 := by omega
  have e1 : ((s.n : Int) + 64 - 1) / 64 = (C : Int) := by omega
  have hsl : ∀ wx, (Instr.sliceAt 59 (.pointer (some ⟨b, 1, none⟩)) none (some (.int .i64 (((s.n : Int) + 64 - 1) / 64))) none).run Tryd.prog wx = .ok (.slice (some ⟨b, 1, none⟩) C 1024) wx := fun wx => by
    rw [e1]
    exact slice_words wx b C hC2
  clear h hC
  go_enter Tryd.func16, Tryd.ntmps16
  clear e1
  go_wp2
  go_quiet (simp only [hsl])
  go_wp2
  go_loopw [3, 18] (fun c i wx => ∃ k : Nat, k ≤ C ∧ i = .int .i64 k ∧ c = .int .i64 (cnt (bit s.f) (64 * k) : Nat) ∧ wx = w.drewN nq) (fun _ i _ => C - (intOf i).toNat)
  case atStart => exact ⟨0, by omega, rfl, rfl, rfl⟩
  case round =>
    obtain ⟨k, hk, rfl, rfl, rfl⟩ := hrel
    by_cases hlt : k < C
    · have hltz : (k : Int) < (C : Int) := by omega
      have hw := H.out.word (i := k) (by omega)
      have HC := ones_any (w.drewN nq) (s.f k).toNat (word_lt _)
      have hcs := cnt_words s.f k
      have hl1 := cnt_le (bit s.f) (64 * k)
      have hl2 : pc (s.f k).toNat 64 ≤ 64 := cnt_le _ _
      have HN : Hid (cnt (bit s.f) (64 * (k + 1)) = cnt (bit s.f) (64 * k) + pc (s.f k).toNat 64) := hcs
      clear hcs hsl
      go_wp2_with (go_at_call 39; refine HC.mono ?_; rintro e w' ⟨rfl, rfl⟩)
      exact ⟨⟨k + 1, by omega, by go_num, by rw [HN.out]; go_num, trivial⟩, by simp [intOf]; omega⟩
    · have hltz : ¬ (k : Int) < (C : Int) := by omega
      obtain ⟨m, rfl⟩ : ∃ m, m = k := ⟨_, rfl⟩
      have HE : Hid (m = C) := by show _ = _; omega
      clear hsl
      go_wp2
      go_ret
      exact ⟨by rw [HR.out, ← HE.out]; rfl, nq, rfl⟩
set_option maxHeartbeats 800000 in
theorem left_any (w : World) (b : Nat) (s : Sp) (h : SpaceAt w b s) :
    Calls Tryd.prog 18 #[.pointer (some ⟨b, 0, none⟩)] w fun e w' => e = .returned (.int .i64 ((s.n - s.used : Nat) : Int)) ∧ ∃ q, w' = w.drewN q := by
  have c0 := h.count
  have h1 := h.ok.high
  have hu := s.used_le
  have HU : ∀ q, Calls Tryd.prog 16 #[.pointer (some ⟨b, 0, none⟩)] (w.drewN q) fun e w' => e = .returned (.int .i64 (s.used : Int)) ∧ ∃ q', w' = (w.drewN q).drewN q' := fun q => used_any _ b s ⟨h.cells, h.ok⟩
  have hS : Hid (((s.n - s.used : Nat) : Int) = (s.n : Int) - (s.used : Int)) := by show _ = _; omega
  generalize s.used = u at HU hu hS
  clear h
  go_enter Tryd.func18, Tryd.ntmps18
  go_wp2
  go_quiet ((go_at_call 16; exact Calls.quiet_of (HU _)))
  go_wp2
  go_ret
  exact ⟨by rw [hS.out]; rfl, _, rfl⟩
end Go.Proofs.YtlokplnapaghhaaDoor
