/- Has, turn, first, Take, Free, Alloc. -/
import Derived.Test.YtlokplnapaghhaaDoorBase
import Derived.Shelf.Spec.TrailingZeros
namespace Go.Proofs.YtlokplnapaghhaaDoor
open Go.RowKit

theorem and_one (x : BitVec 64) : x &&& 1#64 = if x.getLsbD 0 then 1#64 else 0#64 := by
  apply BitVec.eq_of_getLsbD_eq
  intro i hi
  cases i with
  | zero => cases e : x.getLsbD 0 <;> simp_all
  | succ i => cases e : x.getLsbD 0 <;> simp
theorem shr64 (x : BitVec 64) (k : Nat) : (x.toNat : Int) / 2 ^ k = ((x >>> k).toNat : Int) := by
  rw [BitVec.toNat_ushiftRight, Nat.shiftRight_eq_div_pow]
  simp
theorem bit_said (x : BitVec 64) (j : Nat) : (bits .and .u64 ((x.toNat : Int) / 2 ^ j) 1 == 1) = x.getLsbD j := by
  have h1 : (1 : Int) = ((1#64).toNat : Int) := by decide
  rw [shr64]
  conv => lhs; lhs; rw [h1]
  rw [and64, and_one, BitVec.getLsbD_ushiftRight, Nat.add_zero]
  cases x.getLsbD j <;> decide
theorem one_shl (j : Nat) (hj : j < 64) : IntKind.u64.wrap (2 ^ j) = ((1#64 <<< j).toNat : Int) := by
  have h : (2 : Nat) ^ j < 2 ^ 64 := Nat.pow_lt_pow_right (by decide) hj
  have h2 : ((2 : Int) ^ j) = ((2 ^ j : Nat) : Int) := by simp
  rw [wrap64u, BitVec.toNat_shiftLeft, Nat.shiftLeft_eq, h2]
  simp
theorem has_in (w : World) (b : Nat) (s : Sp) (h : SpaceAt w b s) (k : Nat) (hk : k < s.n) :
    Calls Tryd.prog 23 #[.pointer (some ⟨b, 0, none⟩), .int .i64 k] w fun e w' => e = .returned (.bool (s.has k)) ∧ w' = w := by
  have HT := there_any w b s h k
  have h1 := h.ok.high
  have hin : inB k s.n = true := by simp [inB]; omega
  rw [hin] at HT
  have hw := h.word (i := k / 64) (by omega)
  have hk2 : k < 65536 := by omega
  clear h hin
  go_enter Tryd.func23, Tryd.ntmps23
  go_wp2_with (go_at_call 44; refine HT.mono ?_; rintro e w' ⟨rfl, rfl⟩)
  go_ret
  exact ⟨by rw [bit_said]; rfl, rfl⟩
/-- Is that block used? (Any number.) -/
def Sp.hasI (s : Sp) (z : Int) : Bool := inB z s.n && s.has z.toNat
theorem has_any (w : World) (b : Nat) (s : Sp) (h : SpaceAt w b s) (z : Int) :
    Calls Tryd.prog 23 #[.pointer (some ⟨b, 0, none⟩), .int .i64 z] w fun e w' => e = .returned (.bool (s.hasI z)) ∧ w' = w := by
  by_cases hz : 0 ≤ z ∧ z < (s.n : Int)
  · obtain ⟨k, rfl⟩ : ∃ k : Nat, z = k := ⟨z.toNat, by omega⟩
    have := has_in w b s h k (by omega)
    have e : s.hasI k = s.has k := by
      have h1 : inB k s.n = true := by simp [inB]; omega
      simp [Sp.hasI, h1]
    rw [e]
    exact this
  · have HT := there_any w b s h z
    have hin : inB z s.n = false := by simp [inB]; omega
    have e : s.hasI z = false := by simp [Sp.hasI, hin]
    rw [hin] at HT
    rw [e]
    clear h hin hz e
    go_enter Tryd.func23, Tryd.ntmps23
    go_wp2_with (go_at_call 44; refine HT.mono ?_; rintro e w' ⟨rfl, rfl⟩)
    go_ret
    exact ⟨rfl, rfl⟩
theorem turn_any (w : World) (b : Nat) (s : Sp) (h : SpaceAt w b s) (k : Nat) (hk : k < s.n) :
    Calls Tryd.prog 43 #[.pointer (some ⟨b, 0, none⟩), .int .i64 k] w fun e w' => e = .returned (.tuple #[]) ∧ SpaceAt w' b (s.turn k) ∧ Kept (fun i => i = b) w w' := by
  have h1 := h.ok.high
  have hw := h.word (i := k / 64) (by omega)
  have hf := row_frozen h.cells (1 + k / 64)
  have hk2 : k < 65536 := by omega
  have e : bits BinOp.xor IntKind.u64 ((s.f (k / 64)).toNat : Int) (IntKind.u64.wrap (2 ^ (k % 64))) = ((s.f (k / 64) ^^^ (1#64 <<< (k % 64))).toNat : Int) := by
    rw [one_shl _ (Nat.mod_lt _ (by decide)), xor64]
  have H : Hid (SpaceAt ((w.setCell { block := b, off := 1 + k / 64 } (Value.int IntKind.u64 (bits BinOp.xor IntKind.u64 ((s.f (k / 64)).toNat : Int) (IntKind.u64.wrap (2 ^ (k % 64)))))).drew) b (s.turn k) ∧ Kept (fun i => i = b) w ((w.setCell { block := b, off := 1 + k / 64 } (Value.int IntKind.u64 (bits BinOp.xor IntKind.u64 ((s.f (k / 64)).toNat : Int) (IntKind.u64.wrap (2 ^ (k % 64)))))).drew)) := by
    refine ⟨⟨?_, h.ok.turn hk⟩, (setCell_kept _).drew⟩
    rw [e, ← cellsS_turn s k hk2]
    exact heap_set_same _ h.cells
  clear h e
  go_enter Tryd.func43, Tryd.ntmps43
  go_wp2
  go_region
  go_end0
  exact ⟨rfl, H.out⟩
theorem tz_core (x k idx : Nat) (w : World) (hx0 : ((x : Int) == 0) = false)
    (key : IntKind.u64.wrap (bits BinOp.and IntKind.u64 (x : Int) (IntKind.u64.wrap (-(x : Int))) * 285870213051353865) / 288230376151711744 = (idx : Int))
    (hi : idx < 64) (hk : k < 64) (hcell : w.cell? ⟨0, idx, none⟩ = some (.int .u8 k)) :
    Calls Tryd.prog 49 #[.int .u64 x] w fun e w' => e = .returned (.int .i64 k) ∧ w' = w := by
  go_enter Tryd.func49, Tryd.ntmps49
  go_wp2_with (simp only [key])
  go_ret
  exact ⟨rfl, rfl⟩
theorem tz_any (w : World) (x : Nat) (hx : x < 18446744073709551616) (hx0 : x ≠ 0) (h : Tab w) :
    Calls Tryd.prog 49 #[.int .u64 x] w fun e w' => e = .returned (.int .i64 (Lib.ctz 64 x)) ∧ w' = w := by
  obtain ⟨hlow, hk⟩ := Lib.lowest_bit 64 x hx0 hx
  obtain ⟨hi, htab⟩ := Lib.deBruijn64_at _ hk
  have hcell := h _ hi
  rw [htab] at hcell
  exact tz_core x _ _ w (by rw [beq_eq_false_iff_ne]; omega) (tz64_key x _ hx hx0 hlow) hi hk hcell

/-- The word that is laid over. -/
def lid (b : Bool) : BitVec 64 := if b then 0#64 else BitVec.allOnes 64
theorem lid_bit (x : BitVec 64) (b : Bool) (i : Nat) (hi : i < 64) : (x ^^^ lid b).getLsbD i = (x.getLsbD i == b) := by
  rw [BitVec.getLsbD_xor]
  cases b
  · simp only [lid, Bool.false_eq_true, if_false, BitVec.getLsbD_allOnes, hi, decide_true]
    cases x.getLsbD i <;> rfl
  · simp only [lid, if_true, BitVec.getLsbD_zero]
    cases x.getLsbD i <;> rfl
theorem rest_bit (f : Ws) (b : Bool) (m j : Nat) (hj : j + m % 64 < 64) : ((f (m / 64) ^^^ lid b) >>> (m % 64)).getLsbD j = (bit f (m + j) == b) := by
  rw [BitVec.getLsbD_ushiftRight, lid_bit _ _ _ (by omega)]
  unfold bit
  rw [show (m + j) / 64 = m / 64 by omega, show (m + j) % 64 = m % 64 + j by omega]
theorem rest_high (f : Ws) (b : Bool) (m j : Nat) (hj : ¬ j + m % 64 < 64) : ((f (m / 64) ^^^ lid b) >>> (m % 64)).getLsbD j = false := by
  rw [BitVec.getLsbD_ushiftRight]
  exact BitVec.getLsbD_of_ge _ _ (by omega)
theorem not_of {x b : Bool} (h : false = (x == b)) : x = !b := by cases x <;> cases b <;> simp_all
theorem first_miss (f : Ws) (b : Bool) (m : Nat) (h : ((f (m / 64) ^^^ lid b) >>> (m % 64)).toNat = 0) (j : Nat) (h1 : m ≤ j) (h2 : j < m + (64 - m % 64)) : bit f j = !b := by
  have e : ((f (m / 64) ^^^ lid b) >>> (m % 64)) = 0#64 := BitVec.eq_of_toNat_eq h
  have := rest_bit f b m (j - m) (by omega)
  rw [e, show m + (j - m) = j by omega] at this
  exact not_of (by simpa using this)
theorem first_hit (f : Ws) (b : Bool) (m x : Nat) (hx : ((f (m / 64) ^^^ lid b) >>> (m % 64)).toNat = x) (h : x ≠ 0) :
    (∀ j, m ≤ j → j < m + Lib.ctz 64 x → bit f j = !b) ∧ bit f (m + Lib.ctz 64 x) = b ∧ Lib.ctz 64 x + m % 64 < 64 := by
  have hlt : x < 2 ^ 64 := by rw [← hx]; exact BitVec.isLt _
  have hc : Lib.ctz 64 x = Lib.ctzFrom 64 x := by simp [Lib.ctz, h]
  obtain ⟨q, hq, hk⟩ := Lib.ctzFrom_spec 64 x (by omega) hlt
  rw [← hc] at hq hk
  generalize Lib.ctz 64 x = k at hq hk
  have tb : ∀ j, ((f (m / 64) ^^^ lid b) >>> (m % 64)).getLsbD j = x.testBit j := fun j => by rw [← hx, BitVec.testBit_toNat]
  have t1 : x.testBit k = true := by
    rw [hq, Nat.mul_comm, Nat.testBit_mul_two_pow]
    simp
  have t0 : ∀ j, j < k → x.testBit j = false := fun j hj => by
    rw [hq, Nat.mul_comm, Nat.testBit_mul_two_pow, decide_eq_false (by omega), Bool.false_and]
  have hr : k + m % 64 < 64 := by
    apply Nat.lt_of_not_le
    intro hle
    have := rest_high f b m k (by omega)
    rw [tb, t1] at this
    cases this
  refine ⟨fun j h1 h2 => ?_, ?_, hr⟩
  · have := rest_bit f b m (j - m) (by omega)
    rw [tb, t0 _ (by omega), show m + (j - m) = j by omega] at this
    exact not_of this
  · have := rest_bit f b m k hr
    rw [tb, t1] at this
    simpa using this.symm

theorem first_any (w : World) (b : Nat) (s : Sp) (h : SpaceAt w b s) (ht : Tab w) (m : Nat) (hm : m ≤ s.n) (t : Bool) :
    Calls Tryd.prog 48 #[.pointer (some ⟨b, 0, none⟩), .int .i64 m, .int .u64 ((lid t).toNat : Int)] w fun e w' => e = .returned (.int .i64 (s.next t m : Int)) ∧ w' = w := by
  have h1 := h.ok.high
  have c0 := h.count
  have H : Hid (SpaceAt w b s) := h
  have HTb : Hid (Tab w) := ht
  clear h ht
  go_enter Tryd.func48, Tryd.ntmps48
  go_wp2
  go_loop [1] (fun i => ∃ k : Nat, m ≤ k ∧ k ≤ 65600 ∧ i = .int .i64 k ∧ ∀ j, m ≤ j → j < k → s.has j = !t) (fun i => 65600 - (intOf i).toNat)
  case atStart => exact ⟨m, Nat.le_refl _, by omega, rfl, fun j h1 h2 => by omega⟩
  case round =>
    obtain ⟨k, hmk, hk, rfl, hno⟩ := hrel
    have HN : Hid (∀ j, m ≤ j → j < k → s.has j = !t) := hno
    clear hno
    by_cases hlt : k < s.n
    · have hltz : (k : Int) < (s.n : Int) := by omega
      have hw := H.out.word (i := k / 64) (by omega)
      have e : bits BinOp.xor IntKind.u64 ((s.f (k / 64)).toNat : Int) ((lid t).toNat : Int) / 2 ^ (k % 64) = (((s.f (k / 64) ^^^ lid t) >>> (k % 64)).toNat : Int) := by
        rw [xor64, shr64]
      obtain ⟨x, hx⟩ : ∃ x, ((s.f (k / 64) ^^^ lid t) >>> (k % 64)).toNat = x := ⟨_, rfl⟩
      have hxl : x < 18446744073709551616 := by rw [← hx]; exact BitVec.isLt _
      rw [hx] at e
      by_cases hx0 : x = 0
      · have HM : Hid _ := first_miss s.f t k (by rw [hx]; exact hx0)
        have hz : ((x : Int) != 0) = false := by subst hx0; rfl
        clear hx hx0
        go_wp2_with (simp only [e])
        exact ⟨⟨k + (64 - k % 64), by omega, by omega, by go_num, fun j h1 h2 => if hj : j < k then HN.out j h1 hj else HM.out j (by omega) h2⟩, by simp [intOf]; omega⟩
      · have HM : Hid _ := first_hit s.f t k x hx hx0
        have hz : ((x : Int) != 0) = true := by rw [bne_iff_ne]; omega
        have HC := tz_any w x hxl hx0 HTb.out
        have HR : Hid (s.next t m = k + Lib.ctz 64 x ∧ k + Lib.ctz 64 x < 65700) := by
          obtain ⟨g1, g2, g3⟩ := HM.out
          refine ⟨(s.next_is t hm).uniq ⟨by omega, ?_, fun j h1 h2 => if hj : j < k then HN.out j h1 hj else g1 j (by omega) h2, fun _ => g2⟩, by omega⟩
          apply Nat.le_of_not_lt
          intro hgt
          have hz1 : bit s.f s.n = false := H.out.ok.zero _ (Nat.le_refl _)
          have hz2 : bit s.f (k + Lib.ctz 64 x) = false := H.out.ok.zero _ (by omega)
          rw [hz2] at g2
          subst g2
          have := g1 s.n (by omega) hgt
          rw [hz1] at this
          cases this
        clear hx hx0
        generalize Lib.ctz 64 x = c at HC HR
        have hc := HR.out.2
        go_wp2_with (first | simp only [e] | (go_at_call 49; refine HC.mono ?_; rintro e w' ⟨rfl, rfl⟩))
        go_ret
        exact ⟨by rw [HR.out.1]; exact ret_int (by omega), rfl⟩
    · have hltz : decide ((k : Int) < (s.n : Int)) = false := by rw [decide_eq_false_iff_not]; omega
      go_wp2
      go_ret
      refine ⟨?_, rfl⟩
      have : s.next t m = s.n := (s.next_is t hm).uniq ⟨hm, Nat.le_refl _, fun j h1 h2 => HN.out j h1 (by omega), fun h => by omega⟩
      rw [this]
      rfl
end Go.Proofs.YtlokplnapaghhaaDoor
