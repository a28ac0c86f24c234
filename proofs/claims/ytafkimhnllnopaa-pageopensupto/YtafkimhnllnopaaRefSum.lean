/- The document's functions of layer 2: turned, bit, More, Of. -/
import Derived.Test.YtafkimhnllnopaaRev
import Derived.Test.YtafkimhnllnopaaMore
namespace Go.Proofs.Ytafkimhnllnopaa
open Go.RowKit

theorem word_bit (x : BitVec 64) (k : Nat) : ((((x.toNat : Int) / 2 ^ k).tmod 2)) = bitz (x.getLsbD k) := by
  have e : (x.toNat : Int) / 2 ^ k = ((x.toNat / 2 ^ k : Nat) : Int) := by simp
  rw [e, ← BitVec.testBit_toNat, Nat.testBit_eq_decide_div_mod_eq]
  generalize x.toNat / 2 ^ k = m
  rw [Int.tmod_eq_emod_of_nonneg (by omega)]
  unfold bitz
  by_cases h : m % 2 = 1
  · rw [decide_eq_true h, if_pos rfl]
    omega
  · rw [decide_eq_false h, if_neg (by decide)]
    omega

set_option maxRecDepth 100000 in
theorem turnedR_any (x : BitVec 64) (w : World) :
    Calls Try.prog 45 #[.int .u64 (x.toNat : Int)] w fun e w' => e = .returned (.int .u64 ((rev x).toNat : Int)) ∧ w' = w := by
  go_enter Try.func45, Try.ntmps45
  go_wp2
  go_loopw [4, 3] (fun i o wx => ∃ k : Nat, k ≤ 64 ∧ i = .int .i64 k ∧ o = .int .u64 ((revTo x k).toNat : Int) ∧ wx = w) (fun i _ _ => 64 - (intOf i).toNat)
  case atStart => exact ⟨0, by omega, rfl, rfl, rfl⟩
  case round =>
    obtain ⟨k, hk, rfl, rfl, rfl⟩ := hrel
    by_cases hlt : k < 64
    · have hkz : (k : Int) < 64 := by omega
      have hbit := word_bit x k
      obtain ⟨bt, hbt⟩ : ∃ bt, bt = x.getLsbD k := ⟨_, rfl⟩
      rw [← hbt] at hbit
      have HBT : Hid _ := hbt
      clear hbt
      go_wp2
      refine ⟨⟨k + 1, by omega, by go_num, ?_, trivial⟩, by simp [intOf]; omega⟩
      rw [shl_bit, HBT.out]
      rfl
    · obtain rfl : k = 64 := by omega
      go_wp2
      go_ret
      exact ⟨rfl, rfl⟩
theorem byte_bit (c : UInt8) (r : Nat) : ((((c.toNat : Int) / 2 ^ r).tmod 2)) = bitz (c.toNat.testBit r) := by
  have e : (c.toNat : Int) / 2 ^ r = ((c.toNat / 2 ^ r : Nat) : Int) := by simp
  rw [e, Nat.testBit_eq_decide_div_mod_eq]
  generalize c.toNat / 2 ^ r = m
  rw [Int.tmod_eq_emod_of_nonneg (by omega)]
  unfold bitz
  by_cases h : m % 2 = 1
  · rw [decide_eq_true h, if_pos rfl]
    omega
  · rw [decide_eq_false h, if_neg (by decide)]
    omega

set_option maxHeartbeats 800000 in
set_option maxRecDepth 100000 in
theorem bit_any (w : World) (a : Option Addr) (cap : Nat) (bs : List UInt8) (i : Nat) (hb : BytesAt w.heap.size w a bs) (hlen : bs.length ≤ 140737488355328) (hi : i ≤ 2251799813685248) :
    Calls Try.prog 43 #[.slice a bs.length cap, .int .i64 (i : Int)] w fun e w' => e = .returned (.int .u64 (bitz (bitOf bs i))) ∧ w' = w := by
  obtain ⟨q, r, hr8, hqr⟩ : ∃ q r : Nat, r < 8 ∧ i = 8 * q + r := ⟨i / 8, i % 8, by omega, by omega⟩
  have hd1 : (i : Int).tdiv 8 = (q : Int) := by rw [Int.tdiv_eq_ediv_of_nonneg (by omega)]; omega
  have hd2 : (i : Int) / 8 = (q : Int) := by omega
  have hm1 : (i : Int).tmod 8 = (r : Int) := by rw [Int.tmod_eq_emod_of_nonneg (by omega)]; omega
  have hm2 : (i : Int) % 8 = (r : Int) := by omega
  have hq1 : i / 8 = q := by omega
  have hr1 : i % 8 = r := by omega
  by_cases hq : q < bs.length
  · have hqz : (q : Int) < (bs.length : Int) := by omega
    obtain ⟨c, hc⟩ : ∃ c, bs[q]? = some c := ⟨bs[q], List.getElem?_eq_getElem hq⟩
    obtain ⟨g, off, rfl, _, hcell⟩ := hb q c hc
    have HR : Hid (bitz (c.toNat.testBit r) = bitz (bitOf bs i)) := by
      show _ = _
      unfold bitOf
      rw [hq1, hr1, hc]
      rfl
    have HB : Hid ((IntKind.u64.wrap ((c.toNat : Int) / 2 ^ r)).tmod 2 = bitz (c.toNat.testBit r)) := by
      show _ = _
      have e : (c.toNat : Int) / 2 ^ r = ((c.toNat / 2 ^ r : Nat) : Int) := by simp
      have hlt := UInt8.toNat_lt c
      have hle := Nat.div_le_self c.toNat (2 ^ r)
      rw [← byte_bit c r, e, wrap64u]
      congr 1
      generalize c.toNat / 2 ^ r = m at *
      omega
    clear hb hc hqr hq1 hr1
    go_enter Try.func43, Try.ntmps43
    go_wp2
    go_ret
    exact ⟨ret_int (HB.out.trans HR.out), rfl⟩
  · have HR : Hid (bitz (bitOf bs i) = 0) := by
      show _ = _
      rw [bit_none bs i (by omega)]
      rfl
    have hqz : (bs.length : Int) ≤ (q : Int) := by omega
    clear hb hqr hq1 hr1
    go_enter Try.func43, Try.ntmps43
    go_wp2
    go_ret
    exact ⟨ret_int HR.out.symm, rfl⟩
theorem xor_bits (b c : Bool) : bits .xor .u64 (bitz b) (bitz c) = bitz (b ^^ c) := by cases b <;> cases c <;> decide

set_option maxHeartbeats 800000 in
set_option maxRecDepth 100000 in
theorem moreR_any (s : BitVec 64) (w : World) (a : Option Addr) (cap : Nat) (bs : List UInt8) (hb : BytesAt w.heap.size w a bs) (hlen : bs.length ≤ 140737488355328) :
    Calls Try.prog 41 #[.int .u64 (s.toNat : Int), .slice a bs.length cap] w fun e w' => e = .returned (.int .u64 ((sumMore s bs).toNat : Int)) ∧ w' = w := by
  have HB : Hid (BytesAt w.heap.size w a bs) := hb
  clear hb
  go_enter Try.func41, Try.ntmps41
  go_wp2
  rw [show bits BinOp.xor IntKind.u64 IntKind.u64.max (s.toNat : Int) = ((~~~ s).toNat : Int) from not64 s]
  obtain ⟨st, hst⟩ : ∃ st, st = ~~~ s := ⟨_, rfl⟩
  rw [← hst]
  have HST : Hid _ := hst
  clear hst
  go_loopw [7, 6] (fun i t wx => ∃ k : Nat, k ≤ 8 * bs.length + 64 ∧ i = .int .i64 k ∧ t = .int .u64 ((rest st bs k).toNat : Int) ∧ wx = w) (fun i _ _ => 8 * bs.length + 64 - (intOf i).toNat)
  case atStart => exact ⟨0, by omega, rfl, rfl, rfl⟩
  case round =>
    obtain ⟨k, hk, rfl, rfl, rfl⟩ := hrel
    obtain ⟨x, hx⟩ : ∃ x, x = rest st bs k := ⟨_, rfl⟩
    rw [← hx]
    have HX : Hid _ := hx
    clear hx
    by_cases hlt : k < 8 * bs.length + 64
    · have hkz : (k : Int) < 8 * (bs.length : Int) + 64 := by omega
      go_wp2_with fail
      refine (bit_any _ _ _ _ k HB.out hlen (by omega)).mono ?_
      rintro _ _ ⟨rfl, rfl⟩
      by_cases h64 : k < 64
      · have h64z : (k : Int) < 64 := by omega
        have hbit := word_bit st k
        obtain ⟨bt, hbt⟩ : ∃ bt, bt = st.getLsbD k := ⟨_, rfl⟩
        rw [← hbt] at hbit
        have hxb := xor_bits (bitOf bs k) bt
        have HC : Hid ((bitOf bs k ^^ bt) = coef st bs k) := by show _ = _; simp [coef, h64, hbt]
        obtain ⟨ct, hct⟩ : ∃ ct, ct = (bitOf bs k ^^ bt) := ⟨_, rfl⟩
        rw [← hct] at hxb HC
        clear hbt hct
        go_wp2_with fail
        refine (step_any x ct _).mono ?_
        rintro _ _ ⟨rfl, rfl⟩
        go_wp2
        refine ⟨⟨k + 1, by omega, by go_num, ?_, trivial⟩, by simp [intOf]; omega⟩
        rw [rest, ← HX.out, ← HC.out]
      · have h64z : ¬ ((k : Int) < 64) := by omega
        have HC : Hid (bitOf bs k = coef st bs k) := by show _ = _; simp [coef, h64]
        obtain ⟨ct, hct⟩ : ∃ ct, ct = bitOf bs k := ⟨_, rfl⟩
        rw [← hct] at HC ⊢
        clear hct
        go_wp2_with fail
        refine (step_any x ct _).mono ?_
        rintro _ _ ⟨rfl, rfl⟩
        go_wp2
        refine ⟨⟨k + 1, by omega, by go_num, ?_, trivial⟩, by simp [intOf]; omega⟩
        rw [rest, ← HX.out, ← HC.out]
    · obtain rfl : k = 8 * bs.length + 64 := by omega
      go_wp2_with fail
      refine (turnedR_any _ _).mono ?_
      rintro _ _ ⟨rfl, rfl⟩
      rw [HX.out, rest_is]
      go_wp2
      go_ret
      refine ⟨ret_int ?_, rfl⟩
      rw [HST.out]
      exact not64 _

theorem ofR_any (w : World) (a : Option Addr) (cap : Nat) (bs : List UInt8) (hb : BytesAt w.heap.size w a bs) (hlen : bs.length ≤ 140737488355328) :
    Calls Try.prog 37 #[.slice a bs.length cap] w fun e w' => e = .returned (.int .u64 ((sumMore 0#64 bs).toNat : Int)) ∧ w' = w := by
  have HB : Hid (BytesAt w.heap.size w a bs) := hb
  clear hb
  go_enter Try.func37, Try.ntmps37
  go_wp2_with fail
  refine (moreR_any 0#64 _ _ _ _ HB.out hlen).mono ?_
  rintro _ _ ⟨rfl, rfl⟩
  go_wp2
  go_ret
  exact ⟨rfl, rfl⟩
end Go.Proofs.Ytafkimhnllnopaa
