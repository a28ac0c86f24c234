/- The law's own function 'filled': it hands back new memory of n bytes of one value, and changes nothing that was there. -/
import Derived.Test.YtphnajphgiinfaaProg
import Derived.WalkKit
import Derived.KernelRfl
namespace Go.Proofs.Ytphnajphgiinfaa
open Go.RowKit

theorem info5 : (Try.prog.info? 5).map (fun i => (i.zero, i.size, i.bytes)) = some (some (.int .u8 0), 1, 1) := by kernel_rfl
theorem info5' : ∃ i, Try.prog.info? 5 = some i ∧ i.zero = some (.int .u8 0) ∧ i.size = 1 ∧ i.bytes = 1 := by
  have h := info5
  cases hi : Try.prog.info? 5 with
  | none => rw [hi] at h; simp at h
  | some i => rw [hi] at h; simp at h; exact ⟨i, rfl, h⟩

theorem fill_step (n k : Nat) (c : Int) (hk : k < n) (xs : List Value) (hxs : xs = List.replicate k (.int .u8 c) ++ List.replicate (n - k) (.int .u8 0)) :
    xs.set k (.int .u8 c) = List.replicate (k + 1) (.int .u8 c) ++ List.replicate (n - (k + 1)) (.int .u8 0) := by
  subst hxs
  have e : n - k = (n - (k + 1)) + 1 := by omega
  rw [e, List.replicate_succ, List.set_append_right _ _ (by simp), List.replicate_succ' (n := k)]
  simp

theorem madeBytes (n : Nat) : (madeCells (Value.cells (.int .u8 0)) (n * 1)).toList = List.replicate n (.int .u8 0) := by
  simp only [madeCells, Value.cells, Nat.mul_one]
  apply List.ext_getElem
  · simp
  · intro i h1 h2
    simp [Nat.mod_one]

theorem grown_new {w a b : World} (h : w.grownBy a none) (k : a.grownBy b (some w.heap.size)) : w.grownBy b none :=
  ⟨k.os.trans h.os, k.tape.trans h.tape, k.output.trans h.output, Nat.le_trans h.size k.size, fun i hi _ => (k.block i (Nat.lt_of_lt_of_le hi h.size) (by simp; omega)).trans (h.block i hi (by simp))⟩

set_option maxHeartbeats 400000 in
theorem filled_any (n : Nat) (c : Int) (w : World) (hn : n ≤ 4096) :
    Calls Try.prog 12 #[.int .i64 n, .int .u8 c] w fun e w' => e = .returned (.slice (some ⟨w.heap.size, 0, none⟩) n n) ∧
      w'.ownsRow w.heap.size 5 1 (.slice (some ⟨w.heap.size, 0, none⟩) n n) n (List.replicate n (.int .u8 c)) ∧ w.grownBy w' none := by
  obtain ⟨i0, hi, hz0, hz1, hz2⟩ := info5'
  go_enter Try.func12, Try.ntmps12
  go_wp2_with (at_make; refine wpList_make_full _ rfl _ _ 29 rfl w.heap.size 5 i0 (.int .u8 0) 1 Try.underlying29 hi hz0 hz1 _ _ _ _ n rfl rfl rfl rfl (by rw [hz2]; omega) (by unfold maxLen; omega) (Nat.le_refl _) ?_; intro w0 hown0 hg0)
  rw [madeBytes] at hown0
  go_loopw [6] (fun i wr => ∃ k : Nat, k ≤ n ∧ i = .int .i64 k ∧ wr.ownsRow w.heap.size 5 1 (.slice (some ⟨w.heap.size, 0, none⟩) n n) n (List.replicate k (.int .u8 c) ++ List.replicate (n - k) (.int .u8 0)) ∧ w.grownBy wr none) (fun i _ => n - (intOf i).toNat)
  case atStart => exact ⟨0, Nat.zero_le _, rfl, by simpa using hown0, hg0⟩
  case round =>
    obtain ⟨k, hk, rfl, hown, hg⟩ := hrel
    by_cases hlt : k < n
    · have hcell := hown.cellAt (j := k) (by omega)
      have hfz := hown.frozenAt (j := k)
      go_wp2
      obtain ⟨h1, h2⟩ := hown.stored k (.int .u8 c)
      refine ⟨⟨k + 1, by omega, by go_num, ?_, grown_new hg h2⟩, by simp [intOf]; omega⟩
      rw [← fill_step n k c hlt _ rfl]
      exact h1
    · go_wp2
      go_ret
      obtain rfl : k = n := by omega
      exact ⟨rfl, by simpa using hown, hg⟩
end Go.Proofs.Ytphnajphgiinfaa
