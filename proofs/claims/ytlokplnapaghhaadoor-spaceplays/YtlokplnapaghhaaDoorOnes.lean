/- math/bits.OnesCount64; Used, Left. -/
import Derived.Test.YtlokplnapaghhaaDoorSmall
import Derived.Test.YtlokplnapaghhaaDoorPop
namespace Go.Proofs.YtlokplnapaghhaaDoor
open Go.RowKit

theorem nat_and (a : Nat) (m : Nat) (ha : a < 18446744073709551616) (hm : m < 18446744073709551616) : bits .and .u64 (a : Int) (m : Int) = ((a &&& m : Nat) : Int) := u64_and_nat a m ha hm
theorem wrap_nat (a : Nat) (ha : a < 18446744073709551616) : IntKind.u64.wrap (a : Int) = (a : Int) := by rw [wrap64u]; omega
theorem and_mask (y : Nat) (h : y < 9223372036854775808) : bits .and .i64 (y : Int) 127 = ((y % 128 : Nat) : Int) := by
  have h1 : (BitVec.ofInt 64 (y : Int)).toNat = y := by
    rw [BitVec.ofInt_natCast, BitVec.toNat_ofNat]; exact Nat.mod_eq_of_lt (by omega)
  have h2 : (BitVec.ofInt 64 (127 : Int)).toNat = 127 := by decide
  have h3 : y &&& 127 = y % 128 := by
    have := Nat.and_two_pow_sub_one_eq_mod y 7
    simpa using this
  show IntKind.i64.wrap ((BitVec.ofInt 64 (y : Int) &&& BitVec.ofInt 64 (127 : Int)).toNat : Int) = _
  rw [BitVec.toNat_and, h1, h2, h3]
  simp [IntKind.wrap, IntKind.bits, IntKind.signed]
  omega
set_option maxHeartbeats 800000 in
theorem ones_any (w : World) (x : Nat) (hx : x < 18446744073709551616) :
    Calls Tryd.prog 39 #[.int .u64 x] w fun e w' => e = .returned (.int .i64 (pc x 64 : Nat)) ∧ w' = w := by
  obtain ⟨la, lb, _, lc, b0, b1, b2, b3, b4, b5, b6, b7, hb, hc, hp⟩ := ones_main x hx
  have lcc : onesC (onesB (onesA x)) < 18446744073709551616 := by
    have : onesC (onesB (onesA x)) ≤ onesB (onesA x) / 16 + onesB (onesA x) := Nat.and_le_left
    omega
  have HA : IntKind.u64.wrap (bits .and .u64 ((x : Int) / 2) 6148914691236517205 + bits .and .u64 (x : Int) 6148914691236517205) = (onesA x : Int) := by
    have e1 := nat_and (x / 2) 6148914691236517205 (by omega) (by decide)
    have e2 := nat_and x 6148914691236517205 hx (by decide)
    have e3 : ((x : Int) / 2) = ((x / 2 : Nat) : Int) := by simp
    have e4 : (6148914691236517205 : Int) = ((6148914691236517205 : Nat) : Int) := rfl
    rw [e3, e4, e1, e2, ← Int.natCast_add]
    exact wrap_nat _ la
  obtain ⟨xa, hxa⟩ : ∃ xa, xa = onesA x := ⟨_, rfl⟩
  rw [← hxa] at HA la lb lc lcc hc
  clear hxa
  have HB : IntKind.u64.wrap (bits .and .u64 ((xa : Int) / 4) 3689348814741910323 + bits .and .u64 (xa : Int) 3689348814741910323) = (onesB xa : Int) := by
    have e1 := nat_and (xa / 4) 3689348814741910323 (by omega) (by decide)
    have e2 := nat_and xa 3689348814741910323 la (by decide)
    have e3 : ((xa : Int) / 4) = ((xa / 4 : Nat) : Int) := by simp
    have e4 : (3689348814741910323 : Int) = ((3689348814741910323 : Nat) : Int) := rfl
    rw [e3, e4, e1, e2, ← Int.natCast_add]
    exact wrap_nat _ lb
  obtain ⟨xb, hxb⟩ : ∃ xb, xb = onesB xa := ⟨_, rfl⟩
  rw [← hxb] at HB lb lc lcc hc
  clear hxb
  have HC : bits .and .u64 (IntKind.u64.wrap ((xb : Int) / 16 + (xb : Int))) 1085102592571150095 = (onesC xb : Int) := by
    have e3 : ((xb : Int) / 16 + (xb : Int)) = ((xb / 16 + xb : Nat) : Int) := by simp
    rw [e3, wrap_nat _ lc]
    exact nat_and (xb / 16 + xb) 1085102592571150095 lc (by decide)
  obtain ⟨xc, hxc⟩ : ∃ xc, xc = onesC xb := ⟨_, rfl⟩
  rw [← hxc] at HC lcc hc
  clear hxc
  obtain ⟨y1, y2, y3, h1, h2, h3, l3, l1, l2, hm⟩ := ones_end xc b0 b1 b2 b3 b4 b5 b6 b7 hb hc
  rw [← hp] at hm
  have HD : IntKind.u64.wrap ((xc : Int) + (xc : Int) / 256) = (y1 : Int) := by
    have e3 : ((xc : Int) + (xc : Int) / 256) = ((xc + xc / 256 : Nat) : Int) := by simp
    rw [e3, ← h1]
    exact wrap_nat _ (by omega)
  have HE : IntKind.u64.wrap ((y1 : Int) + (y1 : Int) / 65536) = (y2 : Int) := by
    have e3 : ((y1 : Int) + (y1 : Int) / 65536) = ((y1 + y1 / 65536 : Nat) : Int) := by simp
    rw [e3, ← h2]
    exact wrap_nat _ (by omega)
  have HF : IntKind.u64.wrap ((y2 : Int) + (y2 : Int) / 4294967296) = (y3 : Int) := by
    have e3 : ((y2 : Int) + (y2 : Int) / 4294967296) = ((y2 + y2 / 4294967296 : Nat) : Int) := by simp
    rw [e3, ← h3]
    exact wrap_nat _ (by omega)
  have HG : bits .and .i64 (y3 : Int) 127 = (pc x 64 : Int) := by rw [and_mask y3 l3, hm]
  have HW : IntKind.i64.wrap (y3 : Int) = (y3 : Int) := by simp [IntKind.wrap, IntKind.bits, IntKind.signed]; omega
  clear hb hc hp h1 h2 h3 hm la lb lc lcc l1 l2
  go_enter Tryd.func39, Tryd.ntmps39
  go_wp2_with (simp only [HA, HB, HC, HD, HE, HF, HG, HW])
  go_ret
  exact ⟨rfl, rfl⟩
end Go.Proofs.YtlokplnapaghhaaDoor
