/- The document's functions: turned, times, Join. -/
import Derived.Test.YtcafgeebnddkdaaRev
import Derived.Test.YtcafgeebnddkdaaJoin
namespace Go.Proofs.Ytcafgeebnddkdaa
open Go.RowKit

theorem word_bit (x : BitVec 64) (k : Nat) : ((((x.toNat : Int) / 2 ^ k).tmod 2)) = bitz (x.getLsbD k) := by
  have e : (x.toNat : Int) / 2 ^ k = ((x.toNat / 2 ^ k : Nat) : Int) := by simp
  rw [e, ← BitVec.testBit_toNat, Nat.testBit_eq_decide_div_mod_eq]
  generalize x.toNat / 2 ^ k = m
  rw [Int.tmod_eq_emod_of_nonneg (by omega)]
  unfold bitz
  by_cases h : m % 2 = 1
  · rw [decide_eq_true h, if_pos rfl]
    omega
  · rw [decide_eq_false h, if_neg (by decide)]
    omega

set_option maxRecDepth 100000 in
theorem turnedR_any (x : BitVec 64) (w : World) :
    Calls Try.prog 21 #[.int .u64 (x.toNat : Int)] w fun e w' => e = .returned (.int .u64 ((rev x).toNat : Int)) ∧ w' = w := by
  go_enter Try.func21, Try.ntmps21
  go_wp2
  go_loopw [4, 3] (fun i o wx => ∃ k : Nat, k ≤ 64 ∧ i = .int .i64 k ∧ o = .int .u64 ((revTo x k).toNat : Int) ∧ wx = w) (fun i _ _ => 64 - (intOf i).toNat)
  case atStart => exact ⟨0, by omega, rfl, rfl, rfl⟩
  case round =>
    obtain ⟨k, hk, rfl, rfl, rfl⟩ := hrel
    by_cases hlt : k < 64
    · have hkz : (k : Int) < 64 := by omega
      have hbit := word_bit x k
      obtain ⟨bt, hbt⟩ : ∃ bt, bt = x.getLsbD k := ⟨_, rfl⟩
      rw [← hbt] at hbit
      have HBT : Hid _ := hbt
      clear hbt
      go_wp2
      refine ⟨⟨k + 1, by omega, by go_num, ?_, trivial⟩, by simp [intOf]; omega⟩
      rw [shl_bit, HBT.out]
      rfl
    · obtain rfl : k = 64 := by omega
      go_wp2
      go_ret
      exact ⟨rfl, rfl⟩
set_option maxRecDepth 100000 in
theorem times_any (a b : BitVec 64) (w : World) :
    Calls Try.prog 22 #[.int .u64 (a.toNat : Int), .int .u64 (b.toNat : Int)] w fun e w' => e = .returned (.int .u64 ((rev (mul (rev b) (rev a))).toNat : Int)) ∧ w' = w := by
  go_enter Try.func22, Try.ntmps22
  go_wp2
  go_loopw [6, 5] (fun i o wx => ∃ k : Nat, k ≤ 64 ∧ i = .int .i64 (63 - (k : Int)) ∧ o = .int .u64 ((rev (horner (rev b) (rev a) k)).toNat : Int) ∧ wx = w) (fun i _ _ => (intOf i + 1).toNat)
  case atStart => exact ⟨0, by omega, rfl, by rw [horner, rev_zero]; rfl, rfl⟩
  case round =>
    obtain ⟨k, hk, rfl, rfl, rfl⟩ := hrel
    obtain ⟨o, ho⟩ : ∃ o, o = rev (horner (rev b) (rev a) k) := ⟨_, rfl⟩
    rw [← ho]
    have HO : Hid _ := ho
    clear ho
    by_cases hlt : k < 64
    · obtain ⟨j, hj⟩ : ∃ j : Nat, (63 : Int) - (k : Int) = (j : Int) := ⟨63 - k, by omega⟩
      have hj64 : j < 64 := by omega
      have HJ : Hid (k = 63 - j) := by show _ = _; omega
      rw [hj]
      have hbit := word_bit b j
      obtain ⟨bt, hbt⟩ : ∃ bt, bt = b.getLsbD j := ⟨_, rfl⟩
      rw [← hbt] at hbit
      have HBT : Hid (bt = (rev b).getLsbD k) := by
        show _ = _
        rw [rev_bit _ _ hlt, hbt]
        congr 1
        omega
      clear hbt
      have HJ2 : Hid ((63 : Int) - (k : Int) = (j : Int)) := hj
      clear hj
      go_wp2_with fail
      refine (step_any o false _).mono ?_
      rintro _ _ ⟨rfl, rfl⟩
      have hnext : rev (horner (rev b) (rev a) (k + 1)) = stepR o false ^^^ (if bt then a else 0#64) := by
        have h1 := rev_step o false
        rw [horner, rev_xor, HO.out]
        have h2 : T (horner (rev b) (rev a) k) = rev (stepR o false) := by rw [h1, HO.out, rev_rev]; simp
        rw [h2, rev_rev, ← HO.out, ← HBT.out]
        congr 1
        cases bt
        · exact rev_zero
        · exact rev_rev a
      have HNX : Hid _ := hnext
      clear hnext
      cases bt with
      | true =>
        have hbz : bitz true = 1 := rfl
        go_wp2
        refine ⟨⟨k + 1, by omega, ?_, ?_, trivial⟩, by simp [intOf]⟩
        · have := HJ2.out
          congr 1
          omega
        · rw [HNX.out, xor64]
          rfl
      | false =>
        have hbz : bitz false = 0 := rfl
        go_wp2
        refine ⟨⟨k + 1, by omega, ?_, ?_, trivial⟩, by simp [intOf]⟩
        · have := HJ2.out
          congr 1
          omega
        · rw [HNX.out]
          simp
    · obtain rfl : k = 64 := by omega
      go_wp2
      go_ret
      refine ⟨ret_int ?_, rfl⟩
      rw [HO.out, horner_all]
theorem byte_higher : (256 : Int) = ((rev (Tn (8 * 2 ^ 0) E)).toNat : Int) := by decide +kernel

set_option maxHeartbeats 800000 in
set_option maxRecDepth 100000 in
theorem joinR_any (a b : BitVec 64) (n : Int) (w : World) (hn : n ≤ 9223372036854775807) :
    Calls Try.prog 12 #[.int .u64 (a.toNat : Int), .int .u64 (b.toNat : Int), .int .i64 n] w fun e w' => e = .returned (.int .u64 ((joined a b n.toNat).toNat : Int)) ∧ w' = w := by
  have HN : Hid (n ≤ 9223372036854775807) := hn
  clear hn
  go_enter Try.func12, Try.ntmps12
  go_wp2_with fail
  refine (turnedR_any a _).mono ?_
  rintro _ wq ⟨rfl, hwq⟩
  subst hwq
  go_wp2
  go_loopw [2, 7, 8] (fun l o by_ wx => ∃ (z : Int) (m k : Nat), l = .int .i64 z ∧ z ≤ 9223372036854775807 ∧ n.toNat = z.toNat * 2 ^ k + m ∧ o = .int .u64 ((rev (Tn (8 * m) a)).toNat : Int) ∧ by_ = .int .u64 ((rev (Tn (8 * 2 ^ k) E)).toNat : Int) ∧ wx = wq) (fun l _ _ _ => (intOf l).toNat)
  case atStart => exact ⟨n, 0, 0, rfl, HN.out, by simp, rfl, by rw [byte_higher], rfl⟩
  case round =>
    obtain ⟨z, m, k, rfl, hz, hN, rfl, rfl, rfl⟩ := hrel
    have HNN : Hid _ := hN
    clear hN
    obtain ⟨ou, hou⟩ : ∃ ou, ou = rev (Tn (8 * m) a) := ⟨_, rfl⟩
    obtain ⟨bb, hbb⟩ : ∃ bb, bb = rev (Tn (8 * 2 ^ k) E) := ⟨_, rfl⟩
    rw [← hou, ← hbb]
    have HOU : Hid (rev ou = Tn (8 * m) a) := by show _ = _; rw [hou, rev_rev]
    have HBB : Hid (rev bb = Tn (8 * 2 ^ k) E) := by show _ = _; rw [hbb, rev_rev]
    have HO1 : Hid _ := hou
    clear hou hbb
    by_cases hz0 : 0 < z
    · have HL : Hid (rev (mul (rev bb) (rev ou)) = rev (Tn (8 * (m + 2 ^ k)) a)) := by
        show _ = _
        rw [HBB.out, HOU.out, mul_Tn, ← Tn_add, ← Nat.mul_add, Nat.add_comm]
      have HS : Hid (rev (mul (rev bb) (rev bb)) = rev (Tn (8 * 2 ^ (k + 1)) E)) := by
        show _ = _
        rw [HBB.out, mul_Tn, ← Tn_add, ← Nat.mul_add, Nat.pow_succ]
        congr 2
        omega
      by_cases hodd : z % 2 = 1
      · go_wp2_with fail
        refine (times_any _ _ _).mono ?_
        rintro _ _ ⟨rfl, rfl⟩
        rw [HL.out]
        go_wp2_with fail
        refine (times_any _ _ _).mono ?_
        rintro _ _ ⟨rfl, rfl⟩
        rw [HS.out]
        go_wp2
        refine ⟨⟨z / 2, m + 2 ^ k, k + 1, rfl, by omega, ?_, rfl, rfl, trivial⟩, ?_⟩
        · have := HNN.out
          have h1 : z.toNat = 2 * (z / 2).toNat + 1 := by omega
          rw [this, h1, Nat.pow_succ, Nat.add_mul, Nat.mul_assoc, Nat.mul_comm 2, Nat.mul_assoc, Nat.one_mul, Nat.add_assoc, Nat.add_comm m]
        · simp only [intOf]
          omega
      · have hev : (z % 2 == 1) = false := by rw [beq_eq_false_iff_ne]; exact hodd
        go_wp2_with fail
        refine (times_any _ _ _).mono ?_
        rintro _ _ ⟨rfl, rfl⟩
        rw [HS.out]
        go_wp2
        refine ⟨⟨z / 2, m, k + 1, rfl, by omega, ?_, by rw [HO1.out], rfl, trivial⟩, ?_⟩
        · have := HNN.out
          have h1 : z.toNat = 2 * (z / 2).toNat := by omega
          rw [this, h1, Nat.pow_succ, Nat.mul_assoc, Nat.mul_comm 2, Nat.mul_assoc]
        · simp only [intOf]
          omega
    · go_wp2_with fail
      refine (turnedR_any _ _).mono ?_
      rintro _ _ ⟨rfl, rfl⟩
      go_wp2
      go_ret
      refine ⟨ret_int ?_, rfl⟩
      have h1 := HNN.out
      have h2 : z.toNat = 0 := by omega
      have h3 : n.toNat = m := by rw [h1, h2]; simp
      rw [xor64, HOU.out, h3]
      rfl
end Go.Proofs.Ytcafgeebnddkdaa
