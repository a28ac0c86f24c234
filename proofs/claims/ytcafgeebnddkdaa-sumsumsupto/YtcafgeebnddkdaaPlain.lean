/- The law SumPlain's walk. -/
import Derived.Test.YtcafgeebnddkdaaMore
namespace Go.Proofs.Ytcafgeebnddkdaa
open Go.RowKit

theorem info5 : (Try.prog.info? 5).map (fun i => (i.zero, i.size, i.bytes)) = some (some (.int .u8 0), 1, 1) := by kernel_rfl
theorem info5' : ∃ i, Try.prog.info? 5 = some i ∧ i.zero = some (.int .u8 0) ∧ i.size = 1 ∧ i.bytes = 1 := by
  have h := info5
  cases hi : Try.prog.info? 5 with
  | none => rw [hi] at h; simp at h
  | some i => rw [hi] at h; simp at h; exact ⟨i, rfl, h⟩
theorem madeBytes (n : Nat) : (madeCells (Value.cells (.int .u8 0)) (n * 1)).toList = List.replicate n (.int .u8 0) := by
  simp only [madeCells, Value.cells, Nat.mul_one]
  apply List.ext_getElem
  · simp
  · intro i h1 h2
    simp [Nat.mod_one]
def encB (c : UInt8) : Value := .int .u8 (c.toNat : Int)
theorem xor_byte (y x : UInt8) : bits .xor .u8 (y.toNat : Int) (x.toNat : Int) = ((y ^^^ x).toNat : Int) := by
  rw [u8_xor_nat _ _ (UInt8.toNat_lt y) (UInt8.toNat_lt x), UInt8.toNat_xor]

/-- Three texts put together, as far as k. -/
def mix (x y z : List UInt8) (n k : Nat) : List UInt8 := (List.range n).map fun j => if j < k then (x[j]?.getD 0 ^^^ y[j]?.getD 0) ^^^ z[j]?.getD 0 else 0
theorem mix_length (x y z : List UInt8) (n k : Nat) : (mix x y z n k).length = n := by simp [mix]
theorem mix_zero (x y z : List UInt8) (n : Nat) : (mix x y z n 0).map encB = List.replicate n (.int .u8 0) := by
  apply List.ext_getElem
  · simp [mix]
  · intro i h1 h2
    simp [mix, encB]
theorem mix_next (x y z : List UInt8) (n k : Nat) (p q r : UInt8) (hx : x[k]? = some p) (hy : y[k]? = some q) (hz : z[k]? = some r) :
    ((mix x y z n k).map encB).set k (.int .u8 (((p ^^^ q) ^^^ r).toNat : Int)) = (mix x y z n (k + 1)).map encB := by
  apply List.ext_getElem
  · simp [mix]
  · intro i h1 h2
    rw [List.getElem_set]
    by_cases e : k = i
    · subst e
      simp [mix, encB, hx, hy, hz]
    · simp only [e, if_false, mix, List.getElem_map, List.getElem_range]
      by_cases hl : i < k
      · rw [if_pos hl, if_pos (by omega)]
      · rw [if_neg hl, if_neg (by omega)]
theorem mix_all (x y z : List UInt8) (n : Nat) (hx : n ≤ x.length) (hy : n ≤ y.length) (hz : n ≤ z.length) :
    mix x y z n n = List.zipWith (· ^^^ ·) (List.zipWith (· ^^^ ·) (x.take n) (y.take n)) (z.take n) := by
  apply List.ext_getElem
  · simp [mix]; omega
  · intro i h1 h2
    have hi : i < n := by simpa [mix] using h1
    have h3 : x[i]? = some x[i] := List.getElem?_eq_getElem (by omega)
    have h4 : y[i]? = some y[i] := List.getElem?_eq_getElem (by omega)
    have h5 : z[i]? = some z[i] := List.getElem?_eq_getElem (by omega)
    simp [mix, hi, h3, h4, h5]

theorem mix_cell (x y z : List UInt8) (n k : Nat) (h : k < n) : ((mix x y z n k).map encB)[k]? = some (.int .u8 0) := by
  simp [mix, h, encB]
theorem BytesAt.take {B : Nat} {w : World} {a : Option Addr} {bs : List UInt8} (h : BytesAt B w a bs) (n : Nat) : BytesAt B w a (bs.take n) := fun j c hj => by
  rw [List.getElem?_take] at hj
  split at hj
  · exact h j c hj
  · cases hj
theorem BytesAt.mono {B B' : Nat} {w : World} {a : Option Addr} {bs : List UInt8} (h : BytesAt B w a bs) (hB : B ≤ B') : BytesAt B' w a bs := fun j c hj => by
  obtain ⟨g, off, h1, h2, h3⟩ := h j c hj
  exact ⟨g, off, h1, by omega, h3⟩
theorem BytesAt.here {w w' : World} {a : Option Addr} {bs : List UInt8} (h : BytesAt w.heap.size w a bs) (hb : Below w.heap.size w w') : BytesAt w'.heap.size w' a bs := (h.below hb).mono hb.size
theorem bytes_row {w : World} {base : Nat} {a : Option Addr} {n cap : Nat} {bs : List UInt8} (h : w.ownsRow base 5 1 (.slice a n cap) n (bs.map encB)) : BytesAt w.heap.size w a bs := fun j c hj => by
  obtain ⟨hl, hr⟩ := h
  have hj' := (List.getElem?_eq_some_iff.1 hj).1
  rcases hr with ⟨_, h0⟩ | ⟨g, cap', cur, hv, _, hg, _, _, _, ht⟩
  · simp at hl; omega
  · cases hv
    refine ⟨g, 0, rfl, (Array.getElem?_eq_some_iff.1 hg).1, ?_⟩
    rw [row_cell hg]
    have : (cur.toList.take (n * 1))[0 + j]? = some (encB c) := by rw [ht, Nat.zero_add, List.getElem?_map, hj]; rfl
    rw [List.getElem?_take] at this
    split at this
    · rw [← Array.getElem?_toList]; exact this
    · cases this
theorem of_len (w : World) (a : Option Addr) (n cap : Nat) (bs : List UInt8) (hb : BytesAt w.heap.size w a bs) (hn : bs.length = n) (hlen : n ≤ 140737488355328) :
    Calls Try.prog 13 #[.slice a n cap] w fun e w' => e = .returned (.int .u64 ((sumMore 0#64 bs).toNat : Int)) ∧ Below w.heap.size w w' := by
  subst hn
  exact of_any w a cap bs hb hlen

set_option maxHeartbeats 800000 in
set_option maxRecDepth 100000 in
theorem plain_walk (w : World) (a b c : Option Addr) (ca cb cc : Nat) (x y z : List UInt8) (ha : BytesAt w.heap.size w a x) (hb : BytesAt w.heap.size w b y) (hc : BytesAt w.heap.size w c z)
    (la : x.length ≤ 140737488355328) (ka : x.length ≤ ca) (kb : y.length ≤ cb) (kc : z.length ≤ cc) :
    Calls Try.prog 8 #[.slice a x.length ca, .slice b y.length cb, .slice c z.length cc] w fun e w' => e = .returned (.bool true) ∧ Below w.heap.size w w' := by
  obtain ⟨i0, hi, hz0, hz1, hz2⟩ := info5'
  have HA : Hid (BytesAt w.heap.size w a x) := ha
  have HB : Hid (BytesAt w.heap.size w b y) := hb
  have HC : Hid (BytesAt w.heap.size w c z) := hc
  clear ha hb hc
  obtain ⟨n, hn⟩ : ∃ n, n = min (min x.length y.length) z.length := ⟨_, rfl⟩
  have hmin : ∀ W, (Builtin.min_ #[3, 3, 3] 3 #[.int .i64 (x.length : Int), .int .i64 (y.length : Int), .int .i64 (z.length : Int)]).run Try.prog W = .ok (.int .i64 (n : Int)) W := fun W => by
    simp [Builtin.min_, Builtin.min2]
    split <;> split <;> omega
  have hnx : n ≤ x.length := by omega
  have hny : n ≤ y.length := by omega
  have hnz : n ≤ z.length := by omega
  clear hn
  go_enter Try.func8, Try.ntmps8
  go_wp2_with fail
  refine (shown_any _).mono ?_
  rintro _ w1 ⟨rfl, hb1⟩
  have HB1 : Hid _ := hb1
  clear hb1
  by_cases hbig : 2147483647 < n
  · have hbz : (2147483647 : Int) < (n : Int) := by omega
    go_wp2
    go_ret
    exact ⟨rfl, HB1.out⟩
  · have hbz : ¬ ((2147483647 : Int) < (n : Int)) := by omega
    go_wp2_with (at_make; refine wpList_make_full _ rfl _ _ 22 rfl w1.heap.size 5 i0 (.int .u8 0) 1 Try.underlying22 hi hz0 hz1 _ _ _ _ n rfl rfl rfl rfl (by rw [hz2]; omega) (by unfold maxLen; omega) (Nat.le_refl _) ?_; intro w0 hown0 hg0)
    rw [madeBytes] at hown0
    have HB0 : Hid (Below w1.heap.size w1 w0) := (Below.refl _ _).grown hg0 (Nat.le_refl _) (fun k h => by cases h)
    clear hg0
    rw [← mix_zero x y z n] at hown0
    have HO : Hid _ := hown0
    clear hown0 hmin hi hz0 hz1 hz2
    go_loopw [10] (fun i wr => ∃ k : Nat, k ≤ n ∧ i = .int .i64 k ∧ wr.ownsRow w1.heap.size 5 1 (.slice (some ⟨w1.heap.size, 0, none⟩) n n) n ((mix x y z n k).map encB) ∧ Below w1.heap.size w1 wr) (fun i _ => n - (intOf i).toNat)
    case atStart => exact ⟨0, Nat.zero_le _, rfl, HO.out, HB0.out⟩
    case round =>
      obtain ⟨k, hk, rfl, hown, hbe⟩ := hrel
      have HBE : Hid (Below w.heap.size w wr) := HB1.out.trans (hbe.mono HB1.out.size)
      have HBK : Hid _ := hbe
      clear hbe
      by_cases hlt : k < n
      · have hkz : (k : Int) < (n : Int) := by omega
        have hcell := hown.cellAt (j := k) (by omega)
        rw [mix_cell x y z n k hlt] at hcell
        have hfz := hown.frozenAt (j := k)
        have HOW : Hid _ := hown
        clear hown
        obtain ⟨p, hp⟩ : ∃ p, x[k]? = some p := ⟨x[k], List.getElem?_eq_getElem (by omega)⟩
        obtain ⟨q, hq⟩ : ∃ q, y[k]? = some q := ⟨y[k], List.getElem?_eq_getElem (by omega)⟩
        obtain ⟨r, hr⟩ : ∃ r, z[k]? = some r := ⟨z[k], List.getElem?_eq_getElem (by omega)⟩
        obtain ⟨ga, oa, rfl, _, hpa⟩ := HA.out.below HBE.out k p hp
        obtain ⟨gb, ob, rfl, _, hpb⟩ := HB.out.below HBE.out k q hq
        obtain ⟨gc, oc, rfl, _, hpc⟩ := HC.out.below HBE.out k r hr
        have hxk : (k : Int) < (x.length : Int) := by omega
        have hyk : (k : Int) < (y.length : Int) := by omega
        have hzk : (k : Int) < (z.length : Int) := by omega
        have HP : Hid _ := hp
        have HQ : Hid _ := hq
        have HR : Hid _ := hr
        clear hp hq hr
        go_wp2
        go_region
        go_wp2
        have ho : wr.ownsRow w1.heap.size 5 1 (.slice (some ⟨w1.heap.size, 0, none⟩) n n) n ((mix x y z n k).map encB) := HOW.out
        obtain ⟨h1, h2⟩ := ho.stored k (.int .u8 (((p ^^^ q) ^^^ r).toNat : Int))
        rw [xor_byte, xor_byte]
        refine ⟨⟨k + 1, by omega, by go_num, ?_, ?_⟩, by simp [intOf]; omega⟩
        · rw [← mix_next x y z n k p q r HP.out HQ.out HR.out]
          exact h1.drew
        · exact (HBK.out.setCell (by simp) _).drew
      · obtain rfl : k = n := by omega
        have HOW : Hid _ := hown
        clear hown hlt hk
        go_wp2_with fail
        refine (of_len _ _ _ _ (x.take k) ((HA.out.here HBE.out).take k) (by simp; omega) (by omega)).mono ?_
        rintro _ w2 ⟨rfl, hb2⟩
        have HB2 : Hid (Below wr.heap.size wr w2) := hb2
        have HW2 : Hid (Below w.heap.size w w2) := HBE.out.trans (hb2.mono HBE.out.size)
        clear hb2
        go_wp2_with fail
        refine (of_len _ _ _ _ (y.take k) ((HB.out.here HW2.out).take k) (by simp; omega) (by omega)).mono ?_
        rintro _ w3 ⟨rfl, hb3⟩
        have HB3 : Hid (Below wr.heap.size wr w3) := HB2.out.trans (hb3.mono HB2.out.size)
        have HW3 : Hid (Below w.heap.size w w3) := HW2.out.trans (hb3.mono HW2.out.size)
        clear hb3
        go_wp2_with fail
        refine (of_len _ _ _ _ (z.take k) ((HC.out.here HW3.out).take k) (by simp; omega) (by omega)).mono ?_
        rintro _ w4 ⟨rfl, hb4⟩
        have HB4 : Hid (Below wr.heap.size wr w4) := HB3.out.trans (hb4.mono HB3.out.size)
        have HW4 : Hid (Below w.heap.size w w4) := HW3.out.trans (hb4.mono HW3.out.size)
        clear hb4
        go_wp2_with fail
        refine (of_len _ _ _ _ (mix x y z k k) ((bytes_row HOW.out).here HB4.out) (mix_length ..) (by omega)).mono ?_
        rintro _ w5 ⟨rfl, hb5⟩
        have HW5 : Hid (Below w.heap.size w w5) := HW4.out.trans (hb5.mono HW4.out.size)
        clear hb5
        rw [mix_all x y z k hnx hny hnz, more_three _ _ _ (by simp; omega) (by simp; omega)]
        have e1 := xor64 (sumMore 0#64 (x.take k)) (sumMore 0#64 (y.take k))
        have e2 := xor64 (sumMore 0#64 (x.take k) ^^^ sumMore 0#64 (y.take k)) (sumMore 0#64 (z.take k))
        generalize sumMore 0#64 (x.take k) = s1 at *
        generalize sumMore 0#64 (y.take k) = s2 at *
        generalize sumMore 0#64 (z.take k) = s3 at *
        generalize s1 ^^^ s2 = s4 at *
        generalize s4 ^^^ s3 = s5 at *
        go_wp2
        go_ret
        exact ⟨rfl, HW5.out⟩
end Go.Proofs.Ytcafgeebnddkdaa
