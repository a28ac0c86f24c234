/- Four bytes as a number. -/
import Derived.Test.YtlokplnapaghhaaDoorBools
namespace Go.Proofs.YtlokplnapaghhaaDoor
open Go.RowKit

/-- What bytes say, the highest first. -/
def bev (bs : List UInt8) : Nat := bs.foldl (fun n c => n * 256 + c.toNat) 0
theorem bev_snoc (bs : List UInt8) (c : UInt8) : bev (bs ++ [c]) = bev bs * 256 + c.toNat := by simp [bev]
theorem bev_lt' : ∀ (bs : List UInt8) (n m : Nat), n < 256 ^ m → bs.foldl (fun n c => n * 256 + c.toNat) n < 256 ^ (m + bs.length)
  | [], n, m, h => h
  | c :: r, n, m, h => by
    have hc := UInt8.toNat_lt c
    have := bev_lt' r (n * 256 + c.toNat) (m + 1) (by rw [Nat.pow_succ]; omega)
    rw [List.foldl_cons, List.length_cons, show m + (r.length + 1) = m + 1 + r.length by omega]
    exact this
theorem bev_lt (bs : List UInt8) : bev bs < 256 ^ bs.length := by
  have := bev_lt' bs 0 0 (by decide)
  rwa [Nat.zero_add] at this
def told (bs : List UInt8) : Nat := bev (bs.take 4)
theorem told_lt (bs : List UInt8) : told bs < 4294967296 := by
  have h := bev_lt (bs.take 4)
  have h2 : (256 : Nat) ^ (bs.take 4).length ≤ 256 ^ 4 := Nat.pow_le_pow_right (by decide) (List.length_take_le _ _)
  unfold told
  omega
theorem told_be4 (n : Nat) (hn : n < 4294967296) (r : List UInt8) : told (be4 n ++ r) = n := by
  have e : (be4 n ++ r).take 4 = be4 n := List.take_left' (be4_length n)
  unfold told
  rw [e]
  simp only [be4, bev, List.foldl_cons, List.foldl_nil, UInt8.toNat_ofNat']
  omega
theorem be4_told (bs : List UInt8) (h : 4 ≤ bs.length) : be4 (told bs) = bs.take 4 := by
  match bs, h with
  | a :: b :: c :: d :: r, _ =>
    have ha := UInt8.toNat_lt a
    have hb := UInt8.toNat_lt b
    have hc := UInt8.toNat_lt c
    have hd := UInt8.toNat_lt d
    simp only [told, List.take_succ_cons, List.take_zero, bev, List.foldl_cons, List.foldl_nil, be4, List.cons.injEq, and_true]
    refine ⟨?_, ?_, ?_, ?_⟩ <;> (apply UInt8.toNat_inj.1; rw [UInt8.toNat_ofNat']; omega)
theorem or_num (N : Nat) (y : UInt8) (hN : N < 16777216) : bits BinOp.or IntKind.i64 ((N : Int) * 256) (y.toNat : Int) = ((N * 256 + y.toNat : Nat) : Int) := by
  have hy := y.toNat_lt
  have e : ((N : Int) * 256) = ((N * 256 : Nat) : Int) := by simp
  rw [e]
  have h1 : (BitVec.ofInt 64 ((N * 256 : Nat) : Int)).toNat = N * 256 := by
    rw [BitVec.ofInt_natCast, BitVec.toNat_ofNat]; exact Nat.mod_eq_of_lt (by omega)
  have h2 : (BitVec.ofInt 64 (y.toNat : Int)).toNat = y.toNat := by
    rw [BitVec.ofInt_natCast, BitVec.toNat_ofNat]; exact Nat.mod_eq_of_lt (by omega)
  have h3 : N * 256 ||| y.toNat = 256 * N + y.toNat := by
    have h := Nat.shiftLeft_add_eq_or_of_lt (b := y.toNat) (i := 8) (by omega) N
    rw [Nat.shiftLeft_eq] at h
    simp at h
    omega
  show IntKind.i64.wrap ((BitVec.ofInt 64 ((N * 256 : Nat) : Int) ||| BitVec.ofInt 64 (y.toNat : Int)).toNat : Int) = _
  rw [BitVec.toNat_or, h1, h2, h3]
  simp [IntKind.wrap, IntKind.bits, IntKind.signed]
  omega
set_option maxHeartbeats 800000 in
theorem number_any {B : Nat} (w : World) (a : Option Addr) (cap : Nat) (bs : List UInt8) (h : BytesAt B w a bs) (hl : 4 ≤ bs.length) (hc : bs.length ≤ cap) :
    Calls Tryd.prog 40 #[.slice a bs.length cap] w fun e w' => e = .returned (.int .i64 (told bs : Int)) ∧ w' = w := by
  obtain ⟨c0, hc0⟩ : ∃ c, bs[0]? = some c := ⟨bs[0]'(by omega), List.getElem?_eq_getElem (by omega)⟩
  obtain ⟨g, off, rfl, hg, _⟩ := h 0 c0 hc0
  have H : Hid (∀ j c, bs[j]? = some c → w.cell? ⟨g, off + j, none⟩ = some (.int .u8 (c.toNat : Int))) := fun j c hj => by
    obtain ⟨g', off', e, _, hcell⟩ := h j c hj
    cases e
    exact hcell
  have h0 : ¬ cap = 0 := by omega
  have hcz : (4 : Int) ≤ (cap : Int) := by omega
  clear h hc0 hg
  go_enter Tryd.func40, Tryd.ntmps40
  go_wp2
  go_loop [3, 9] (fun n i => ∃ k : Nat, k ≤ 4 ∧ i = .int .i64 k ∧ n = .int .i64 (bev (bs.take k) : Nat)) (fun _ i => 4 - (intOf i).toNat)
  case atStart => exact ⟨0, by omega, rfl, rfl⟩
  case round =>
    obtain ⟨k, hk, rfl, rfl⟩ := hrel
    by_cases hlt : k < 4
    · have hltz : (k : Int) < 4 := by omega
      obtain ⟨c, hcj⟩ : ∃ c, bs[k]? = some c := ⟨bs[k]'(by omega), List.getElem?_eq_getElem (by omega)⟩
      have hcell := H.out k c hcj
      have hb := bev_lt (bs.take k)
      have hp : (256 : Nat) ^ (bs.take k).length ≤ 256 ^ 3 := Nat.pow_le_pow_right (by decide) (Nat.le_trans (List.length_take_le _ _) (by omega))
      have HN : Hid (bev (bs.take (k + 1)) = bev (bs.take k) * 256 + c.toNat) := by
        show _ = _
        rw [List.take_add_one, hcj]
        exact bev_snoc _ _
      have hor := or_num (bev (bs.take k)) c (by omega)
      have hb2 : bev (bs.take k) < 16777216 := by omega
      have hcu := UInt8.toNat_lt c
      have hcw : wrap64 (c.toNat : Int) = (c.toNat : Int) := by unfold wrap64; omega
      clear hcj hb hp
      generalize bev (bs.take k) = N at HN hor hb2
      go_wp2
      exact ⟨⟨k + 1, by omega, by go_num, by rw [HN.out]; go_num⟩, by simp [intOf]; omega⟩
    · have hltz : ¬ (k : Int) < 4 := by omega
      have HE : Hid (k = 4) := by show _ = _; omega
      go_wp2
      go_ret
      exact ⟨by rw [told, ← HE.out]; rfl, rfl⟩
end Go.Proofs.YtlokplnapaghhaaDoor
