/- Join: the first sum so many bytes higher, put to the second one. -/
import Derived.Test.YtcafgeebnddkdaaMore
import Derived.Deep.LoopGhost
import Derived.WalkMore
namespace Go.Proofs.Ytcafgeebnddkdaa
open Go.RowKit

theorem byteLong_is : (36028797018963968 : Int) = ((Tn (8 * 2 ^ 0) E).toNat : Int) := by decide +kernel

theorem top_bit (x : BitVec 64) : x.getLsbD 63 = decide ((x.toNat : Int) / 9223372036854775808 = 1) := by
  have h := msb_is x
  rw [BitVec.msb_eq_getLsbD_last] at h
  rw [show x.getLsbD 63 = x.getLsbD (64 - 1) from rfl, h]
  have := word_lt x
  by_cases hh : 9223372036854775808 ≤ (x.toNat : Int)
  · rw [decide_eq_true hh, decide_eq_true (by omega)]
  · rw [decide_eq_false hh, decide_eq_false (by omega)]

theorem mul_done {fa : BitVec 64} (mv : BitVec 64) {i k : Nat} (hi : i ≤ 64) (h : fa <<< i = 0#64) (hfa : fa = Tn (8 * 2 ^ k) E) : mulTo fa mv i = Tn (8 * 2 ^ k) mv := by
  rw [← mulTo_end fa mv i h 64 hi (Nat.le_refl _)]
  have := mul_Tn (8 * 2 ^ k) mv
  rw [← hfa] at this
  exact this
theorem half_z (z : Int) (h0 : 0 < z) : wrap64 (z.tdiv 2) = z / 2 ∨ 9223372036854775807 < z := by
  rw [Int.tdiv_eq_ediv_of_nonneg (by omega)]
  unfold wrap64
  omega
theorem shl_next (f : BitVec 64) (i : Nat) : IntKind.u64.wrap (((f <<< i).toNat : Int) * 2) = ((f <<< (i + 1)).toNat : Int) := by
  rw [shl64, BitVec.shiftLeft_add]
theorem mul_bit (f m : BitVec 64) (i : Nat) (hi : i < 64) (b : Bool) (h : (f <<< i).getLsbD 63 = b) : mulTo f m (i + 1) = if b then mulTo f m i ^^^ Tn i m else mulTo f m i := by
  have e : (f <<< i).getLsbD 63 = f.getLsbD (63 - i) := by
    rw [BitVec.getLsbD_shiftLeft]
    have h1 : ¬ 63 < i := by omega
    simp [h1]
  rw [mulTo, ← e, h]
  cases b <;> simp

set_option maxHeartbeats 800000 in
set_option maxRecDepth 100000 in
theorem join_any (a b : BitVec 64) (n : Int) (w : World) (hn : n ≤ 9223372036854775807) :
    Calls Try.prog 11 #[.int .u64 (a.toNat : Int), .int .u64 (b.toNat : Int), .int .i64 n] w fun e w' => e = .returned (.int .u64 ((joined a b n.toNat).toNat : Int)) ∧ w' = w := by
  have HN : Hid (n ≤ 9223372036854775807) := hn
  clear hn
  go_enter Try.func11, Try.ntmps11
  go_wp2
  go_step3
  go_wp2
  go_step3
  go_wp2
  go_loopg [9, 7, 8] 63 (fun g l mv fa wx => ∃ (z : Int) (m k : Nat), l = .int .i64 z ∧ z.toNat < 2 ^ g ∧ n.toNat = z.toNat * 2 ^ k + m ∧ mv = .int .u64 ((Tn (8 * m) a).toNat : Int) ∧ fa = .int .u64 ((Tn (8 * 2 ^ k) E).toNat : Int) ∧ wx = w)
  case atStart => exact ⟨n, 0, 0, rfl, by have := HN.out; omega, by simp, rfl, by rw [byteLong_is], rfl⟩
  case round =>
    obtain ⟨z, m, k, rfl, hz, hN, rfl, rfl, rfl⟩ := hrel
    have HNN : Hid _ := hN
    clear hN
    have HZ : Hid _ := hz
    clear hz
    obtain ⟨mv, hmv⟩ : ∃ mv, mv = Tn (8 * m) a := ⟨_, rfl⟩
    obtain ⟨fa, hfa⟩ : ∃ fa, fa = Tn (8 * 2 ^ k) E := ⟨_, rfl⟩
    rw [← hmv, ← hfa]
    have HMV : Hid _ := hmv
    have HFA : Hid _ := hfa
    clear hmv hfa
    by_cases hz0 : 0 < z
    · obtain ⟨go, rfl⟩ : ∃ go, gk = go + 1 := by
        cases gk with
        | zero => have := HZ.out; simp at this; omega
        | succ g => exact ⟨g, rfl⟩
      have hzm : ¬ (9223372036854775807 < z) := by
        have h1 := HNN.out
        have h2 := HN.out
        have h3 : z.toNat * 1 ≤ z.toNat * 2 ^ k := Nat.mul_le_mul_left _ (Nat.one_le_two_pow)
        omega
      have hhalf : wrap64 (z.tdiv 2) = z / 2 := by rcases half_z z hz0 with h | h; exact h; exact absurd h hzm
      have hpow : 2 ^ (go + 1) = 2 * 2 ^ go := by rw [Nat.pow_succ]; omega
      have HP : Hid ((z / 2).toNat < 2 ^ go) := by have := HZ.out; rw [hpow] at this; show _ < _; omega
      have HH : Hid _ := hhalf
      clear hhalf hzm hpow
      go_wp2
      go_loopg [12, 13, 14, 10, 11, 7, 8] 64 (fun g rs mm ff lo sq m7 f8 wx => ∃ i : Nat, i + g = 64 ∧ rs = .int .u64 ((fa <<< i).toNat : Int) ∧ mm = .int .u64 ((Tn i mv).toNat : Int) ∧ ff = .int .u64 ((Tn i fa).toNat : Int) ∧ lo = .int .u64 ((mulTo fa mv i).toNat : Int) ∧ sq = .int .u64 ((mulTo fa fa i).toNat : Int) ∧ m7 = .int .u64 (mv.toNat : Int) ∧ f8 = .int .u64 (fa.toNat : Int) ∧ wx = wr)
      case atStart => exact ⟨0, by omega, by simp, rfl, rfl, rfl, rfl, rfl, rfl, rfl⟩
      case round =>
        obtain ⟨i, hig, rfl, rfl, rfl, rfl, rfl, rfl, rfl, rfl⟩ := hrel
        obtain ⟨x, hx⟩ : ∃ x, x = fa <<< i := ⟨_, rfl⟩
        rw [← hx]
        have HX : Hid _ := hx
        clear hx
        by_cases hx0 : x = 0#64
        · have hxz : (x.toNat : Int) = 0 := by rw [hx0]; rfl
          have HL : Hid (mulTo fa mv i = Tn (8 * (m + 2 ^ k)) a) := by
            show _ = _
            rw [mul_done mv (by omega) (by rw [← HX.out]; exact hx0) HFA.out, HMV.out, ← Tn_add, ← Nat.mul_add, Nat.add_comm]
          have HS : Hid (mulTo fa fa i = Tn (8 * 2 ^ (k + 1)) E) := by
            show _ = _
            rw [mul_done fa (by omega) (by rw [← HX.out]; exact hx0) HFA.out, HFA.out, ← Tn_add, ← Nat.mul_add, Nat.pow_succ]
            congr 1
            omega
          clear hx0
          by_cases hodd : z % 2 = 1
          · go_wp2
            go_roundg go
            case measure => omega
            case rel => exact ⟨z / 2, m + 2 ^ k, k + 1, by rw [HH.out], HP.out, by
              have := HNN.out
              have h1 : z.toNat = 2 * (z / 2).toNat + 1 := by omega
              rw [this, h1, Nat.pow_succ, Nat.add_mul, Nat.mul_assoc, Nat.mul_comm 2, Nat.mul_assoc, Nat.one_mul, Nat.add_assoc, Nat.add_comm m], by rw [HL.out], by rw [HS.out], rfl⟩
          · have hev : (z % 2 == 1) = false := by rw [beq_eq_false_iff_ne]; exact hodd
            go_wp2
            go_roundg go
            case measure => omega
            case rel => exact ⟨z / 2, m, k + 1, by rw [HH.out], HP.out, by
              have := HNN.out
              have h1 : z.toNat = 2 * (z / 2).toNat := by omega
              rw [this, h1, Nat.pow_succ, Nat.mul_assoc, Nat.mul_comm 2, Nat.mul_assoc], by rw [HMV.out], by rw [HS.out], rfl⟩
        · have hxz : ((x.toNat : Int) == 0) = false := by
            rw [beq_eq_false_iff_ne]
            intro e
            apply hx0
            apply BitVec.eq_of_toNat_eq
            simpa using e
          obtain ⟨gi, rfl⟩ : ∃ gi, gk = gi + 1 := by
            cases gk with
            | zero =>
              exfalso
              apply hx0
              rw [HX.out]
              obtain rfl : i = 64 := by omega
              exact BitVec.shiftLeft_eq_zero (Nat.le_refl _)
            | succ g => exact ⟨g, rfl⟩
          have HSH := shl_next fa i
          rw [← HX.out] at HSH
          have HSH' : Hid _ := HSH
          clear HSH hx0
          cases ht : x.getLsbD 63 with
          | true =>
            have HB1 : Hid _ := mul_bit fa mv i (by omega) true (by rw [← HX.out]; exact ht)
            have HB2 : Hid _ := mul_bit fa fa i (by omega) true (by rw [← HX.out]; exact ht)
            have htz : (x.toNat : Int) / 9223372036854775808 = 1 := by rw [top_bit] at ht; exact of_decide_eq_true ht
            clear ht
            go_wp2_with fail
            refine (timesX_any _ _).mono ?_
            rintro _ _ ⟨rfl, rfl⟩
            go_wp2_with fail
            refine (timesX_any _ _).mono ?_
            rintro _ _ ⟨rfl, rfl⟩
            go_wp2
            go_roundg gi
            case measure => omega
            case rel => exact ⟨i + 1, by omega, by rw [HSH'.out], rfl, rfl, by rw [HB1.out, if_pos (by trivial), ← xor64], by rw [HB2.out, if_pos (by trivial), ← xor64], rfl, rfl, rfl⟩
          | false =>
            have HB1 : Hid _ := mul_bit fa mv i (by omega) false (by rw [← HX.out]; exact ht)
            have HB2 : Hid _ := mul_bit fa fa i (by omega) false (by rw [← HX.out]; exact ht)
            have htz : ((x.toNat : Int) / 9223372036854775808 == 1) = false := by rw [top_bit] at ht; rw [beq_eq_false_iff_ne]; exact of_decide_eq_false ht
            clear ht
            go_wp2_with fail
            refine (timesX_any _ _).mono ?_
            rintro _ _ ⟨rfl, rfl⟩
            go_wp2_with fail
            refine (timesX_any _ _).mono ?_
            rintro _ _ ⟨rfl, rfl⟩
            go_wp2
            go_roundg gi
            case measure => omega
            case rel => exact ⟨i + 1, by omega, by rw [HSH'.out], rfl, rfl, by rw [HB1.out, if_neg (by decide)], by rw [HB2.out, if_neg (by decide)], rfl, rfl, rfl⟩
    · go_wp2
      go_ret
      refine ⟨ret_int ?_, rfl⟩
      have h1 := HNN.out
      have h2 : z.toNat = 0 := by omega
      have h3 : n.toNat = m := by rw [h1, h2]; simp
      rw [xor64, HMV.out, h3]
      rfl
end Go.Proofs.Ytcafgeebnddkdaa
