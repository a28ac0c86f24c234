/- More and Of: the sum of bytes. -/
import Derived.Test.YtafkimhnllnopaaTable
import Derived.Lib.SlBytesConst
namespace Go.Proofs.Ytafkimhnllnopaa
open Go.RowKit

/-- The bytes lie there, in blocks below B. -/
def BytesAt (B : Nat) (w : World) (a : Option Addr) (bs : List UInt8) : Prop :=
  ∀ (j : Nat) c, bs[j]? = some c → ∃ g off, a = some ⟨g, off, none⟩ ∧ g < B ∧ w.cell? ⟨g, off + j, none⟩ = some (.int .u8 (c.toNat : Int))
theorem BytesAt.below {B : Nat} {w w' : World} {a : Option Addr} {bs : List UInt8} (h : BytesAt B w a bs) (hb : Below B w w') : BytesAt B w' a bs := fun j c hj => by
  obtain ⟨g, off, h1, h2, h3⟩ := h j c hj
  exact ⟨g, off, h1, h2, by rw [hb.cell h2]; exact h3⟩

theorem F_take (s : BitVec 64) (bs : List UInt8) (k : Nat) (c : UInt8) (h : bs[k]? = some c) : F s (bs.take (k + 1)) = stepB (F s (bs.take k)) c := by
  rw [List.take_add_one, h]
  simp [F_append]

theorem idx_is (x : BitVec 64) (c : UInt8) : bits .xor .u8 ((x.toNat : Int) % 256) (c.toNat : Int) = ((x.toNat % 256 ^^^ c.toNat : Nat) : Int) ∧ (x.toNat % 256 ^^^ c.toNat) < 256 := by
  have h1 : x.toNat % 256 < 256 := Nat.mod_lt _ (by decide)
  have h2 := UInt8.toNat_lt c
  have e : (x.toNat : Int) % 256 = ((x.toNat % 256 : Nat) : Int) := by omega
  refine ⟨by rw [e, u8_xor_nat _ _ h1 h2], ?_⟩
  have := Nat.xor_lt_two_pow (n := 8) (x := x.toNat % 256) (y := c.toNat) h1 h2
  exact this
theorem next_is (x : BitVec 64) (c : UInt8) : bits .xor .u64 ((x.toNat : Int) / 256) ((left (x.toNat % 256 ^^^ c.toNat)).toNat : Int) = ((stepB x c).toNat : Int) := by
  have h2 : (x.toNat : Int) / (256 : Int) = ((x >>> 8).toNat : Int) := shr64 x 8
  rw [h2, xor64, step_table]
  rfl

set_option maxHeartbeats 800000 in
set_option maxRecDepth 100000 in
theorem more_any (s : BitVec 64) (w : World) (a : Option Addr) (cap : Nat) (bs : List UInt8) (hb : BytesAt w.heap.size w a bs) (hlen : bs.length ≤ 140737488355328) :
    Calls Try.prog 40 #[.int .u64 (s.toNat : Int), .slice a bs.length cap] w fun e w' => e = .returned (.int .u64 ((sumMore s bs).toNat : Int)) ∧ Below w.heap.size w w' := by
  obtain ⟨hz, hi⟩ := zero_of_info zero42
  have HI : Hid _ := hi
  clear hi
  have HB : Hid _ := hb
  clear hb
  go_enter Try.func40, Try.ntmps40
  go_wp2_with fail
  refine (table_any _).mono ?_
  rintro _ w1 ⟨rfl, hb1⟩
  have hsc := run_storeCells_new (P := Try.prog) w1 65 (tab 0) (tab 256) (by rw [tab_size]; exact HI.out) (by rw [tab_size, tab_size]) (tab_one _)
  go_wp2
  clear hz hsc
  have hb2 : Below w.heap.size w (w1.alloc (.cells (tab 256) 65)) := hb1.alloc hb1.size _
  have HB2 : Hid _ := hb2
  have HL : Hid _ := heap_alloc_last w1 (.cells (tab 256) 65)
  obtain ⟨g1, hg1⟩ : ∃ g1, g1 = w1.heap.size := ⟨_, rfl⟩
  obtain ⟨w2, hw2⟩ : ∃ w2, w2 = w1.alloc (.cells (tab 256) 65) := ⟨_, rfl⟩
  rw [← hw2] at HB2 HL
  rw [← hg1] at HL
  rw [← hw2, ← hg1]
  clear hb1 hb2 hw2 hg1
  rw [show bits BinOp.xor IntKind.u64 IntKind.u64.max (s.toNat : Int) = ((~~~ s).toNat : Int) from not64 s]
  go_loopw [14, 6] (fun i t wx => ∃ k : Nat, k ≤ bs.length ∧ i = .int .i64 k ∧ t = .int .u64 ((F (~~~ s) (bs.take k)).toNat : Int) ∧ wx = w2) (fun i _ _ => bs.length - (intOf i).toNat)
  case atStart => exact ⟨0, by omega, rfl, rfl, rfl⟩
  case round =>
    obtain ⟨k, hk, rfl, rfl, rfl⟩ := hrel
    by_cases hlt : k < bs.length
    · have hkz : (k : Int) < (bs.length : Int) := by omega
      obtain ⟨c, hc⟩ : ∃ c, bs[k]? = some c := ⟨bs[k], List.getElem?_eq_getElem hlt⟩
      obtain ⟨g, off, rfl, hg, hcell⟩ := BytesAt.below (bs := bs) HB.out HB2.out k c hc
      have HC : Hid _ := hc
      clear hc
      obtain ⟨x, hx⟩ : ∃ x, x = F (~~~ s) (bs.take k) := ⟨_, rfl⟩
      rw [← hx]
      have HX : Hid _ := hx
      clear hx
      obtain ⟨hidx, hi256⟩ := idx_is x c
      have HN : Hid _ := next_is x c
      obtain ⟨m, hm⟩ : ∃ m, m = x.toNat % 256 ^^^ c.toNat := ⟨_, rfl⟩
      rw [← hm] at hidx hi256 HN
      have hiz : (m : Int) < 256 := by omega
      have htab : wr.cell? ⟨g1, m, none⟩ = some (.int .u64 ((left m).toNat : Int)) := by rw [row_cell HL.out, tab_done 256 m hi256 (Nat.le_refl _)]
      clear hm
      go_wp2
      refine ⟨⟨k + 1, by omega, by go_num, ?_, trivial⟩, by simp [intOf]; omega⟩
      rw [F_take _ _ _ _ HC.out, ← HX.out]
      exact congrArg (Value.int .u64) HN.out
    · go_wp2
      go_ret
      obtain rfl : k = bs.length := by omega
      refine ⟨ret_int ?_, HB2.out⟩
      rw [List.take_length]
      exact not64 _
theorem of_any (w : World) (a : Option Addr) (cap : Nat) (bs : List UInt8) (hb : BytesAt w.heap.size w a bs) (hlen : bs.length ≤ 140737488355328) :
    Calls Try.prog 35 #[.slice a bs.length cap] w fun e w' => e = .returned (.int .u64 ((sumMore 0#64 bs).toNat : Int)) ∧ Below w.heap.size w w' := by
  have HB : Hid _ := hb
  clear hb
  go_enter Try.func35, Try.ntmps35
  go_wp2_with fail
  refine (more_any 0#64 _ _ _ _ HB.out hlen).mono ?_
  rintro _ w1 ⟨rfl, hb1⟩
  have HB1 : Hid _ := hb1
  clear hb1
  go_wp2
  go_ret
  exact ⟨rfl, HB1.out⟩

theorem info5 : (Try.prog.info? 5).map (fun i => (i.zero, i.size, i.bytes)) = some (some (.int .u8 0), 1, 1) := by kernel_rfl
theorem info5' : ∃ i, Try.prog.info? 5 = some i ∧ i.zero = some (.int .u8 0) ∧ i.size = 1 ∧ i.bytes = 1 := by
  have h := info5
  cases hi : Try.prog.info? 5 with
  | none => rw [hi] at h; simp at h
  | some i => rw [hi] at h; simp at h; exact ⟨i, rfl, h⟩
theorem madeBytes (n : Nat) : (madeCells (Value.cells (.int .u8 0)) (n * 1)).toList = List.replicate n (.int .u8 0) := by
  simp only [madeCells, Value.cells, Nat.mul_one]
  apply List.ext_getElem
  · simp
  · intro i h1 h2
    simp [Nat.mod_one]
def encB (c : UInt8) : Value := .int .u8 (c.toNat : Int)
theorem xor_byte (y x : UInt8) : bits .xor .u8 (y.toNat : Int) (x.toNat : Int) = ((y ^^^ x).toNat : Int) := by
  rw [u8_xor_nat _ _ (UInt8.toNat_lt y) (UInt8.toNat_lt x), UInt8.toNat_xor]

theorem BytesAt.take {B : Nat} {w : World} {a : Option Addr} {bs : List UInt8} (h : BytesAt B w a bs) (n : Nat) : BytesAt B w a (bs.take n) := fun j c hj => by
  rw [List.getElem?_take] at hj
  split at hj
  · exact h j c hj
  · cases hj
theorem BytesAt.mono {B B' : Nat} {w : World} {a : Option Addr} {bs : List UInt8} (h : BytesAt B w a bs) (hB : B ≤ B') : BytesAt B' w a bs := fun j c hj => by
  obtain ⟨g, off, h1, h2, h3⟩ := h j c hj
  exact ⟨g, off, h1, by omega, h3⟩
theorem BytesAt.here {w w' : World} {a : Option Addr} {bs : List UInt8} (h : BytesAt w.heap.size w a bs) (hb : Below w.heap.size w w') : BytesAt w'.heap.size w' a bs := (h.below hb).mono hb.size
theorem bytes_row {w : World} {base : Nat} {a : Option Addr} {n cap : Nat} {bs : List UInt8} (h : w.ownsRow base 5 1 (.slice a n cap) n (bs.map encB)) : BytesAt w.heap.size w a bs := fun j c hj => by
  obtain ⟨hl, hr⟩ := h
  have hj' := (List.getElem?_eq_some_iff.1 hj).1
  rcases hr with ⟨_, h0⟩ | ⟨g, cap', cur, hv, _, hg, _, _, _, ht⟩
  · simp at hl; omega
  · cases hv
    refine ⟨g, 0, rfl, (Array.getElem?_eq_some_iff.1 hg).1, ?_⟩
    rw [row_cell hg]
    have : (cur.toList.take (n * 1))[0 + j]? = some (encB c) := by rw [ht, Nat.zero_add, List.getElem?_map, hj]; rfl
    rw [List.getElem?_take] at this
    split at this
    · rw [← Array.getElem?_toList]; exact this
    · cases this
theorem of_len (w : World) (a : Option Addr) (n cap : Nat) (bs : List UInt8) (hb : BytesAt w.heap.size w a bs) (hn : bs.length = n) (hlen : n ≤ 140737488355328) :
    Calls Try.prog 35 #[.slice a n cap] w fun e w' => e = .returned (.int .u64 ((sumMore 0#64 bs).toNat : Int)) ∧ Below w.heap.size w w' := by
  subst hn
  exact of_any w a cap bs hb hlen

end Go.Proofs.Ytafkimhnllnopaa
