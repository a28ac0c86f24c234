/- The reader's take and number. -/
import Derived.Test.YtkjjgbaoicjbaabMean
namespace Go.Proofs.Ytkjjgbaoicjbaab
open Go.RowKit

/-- The reader's block. -/
structure RBox (w : World) (g : Nat) (v : Value) (sh : Bool) : Prop where
  row : w.heap[g]? = some (.cells #[v, .bool sh] 56 (0, 0))
theorem RBox.cell {w : World} {g : Nat} {v : Value} {sh : Bool} (h : RBox w g v sh) : w.cell? ⟨g, 0, none⟩ = some v ∧ w.cell? ⟨g, 1, none⟩ = some (.bool sh) := ⟨by rw [row_cell h.row]; rfl, by rw [row_cell h.row]; rfl⟩
theorem RBox.open {w : World} {g : Nat} {v : Value} {sh : Bool} (h : RBox w g v sh) (i : Nat) : w.frozen? ⟨g, i, none⟩ = false := row_frozen h.row _
theorem RBox.lt {w : World} {g : Nat} {v : Value} {sh : Bool} (h : RBox w g v sh) : g < w.heap.size := (Array.getElem?_eq_some_iff.1 h.row).1
theorem RBox.keep {T B : Nat} {w w' : World} {g : Nat} {v : Value} {sh : Bool} (h : RBox w g v sh) (hk : Keep T B w w') (hT : 56 ≠ T) : RBox w' g v sh := ⟨hk.typ _ _ _ _ hT h.row⟩
theorem RBox.here {w w' : World} {g : Nat} {v : Value} {sh : Bool} (h : RBox w g v sh) (hb : Below w.heap.size w w') : RBox w' g v sh := ⟨by rw [hb.block g h.lt]; exact h.row⟩
/-- So many bytes of a rest, and what is left. -/
def takeS (s : Key × Bool) (n : Nat) : Key × (Key × Bool) := if s.1.length < n then ([], (s.1, true)) else (s.1.take n, (s.1.drop n, s.2))
/-- The reader reads: its block, and its rest. -/
structure Rd (B : Nat) (w : World) (g : Nat) (s : Key × Bool) : Prop where
  is : ∃ v, RBox w g v s.2 ∧ KeyIn B w v s.1
theorem Rd.keep {T B : Nat} {w w' : World} {g : Nat} {s : Key × Bool} (h : Rd B w g s) (hk : Keep T B w w') (hT : 56 ≠ T) : Rd B w' g s := by
  obtain ⟨v, h1, h2⟩ := h.is
  exact ⟨v, h1.keep hk hT, h2.below hk.low⟩
theorem Rd.here {B : Nat} {w w' : World} {g : Nat} {s : Key × Bool} (h : Rd B w g s) (hB : B ≤ w.heap.size) (hb : Below w.heap.size w w') : Rd B w' g s := by
  obtain ⟨v, h1, h2⟩ := h.is
  exact ⟨v, h1.here hb, h2.below (hb.mono hB)⟩
structure TakePost (B : Nat) (w : World) (g : Nat) (s : Key × Bool) (n : Nat) (e : Ending) (w' : World) : Prop where
  is : ∃ u, e = .returned u ∧ KeyIn B w' u (takeS s n).1 ∧ Rd B w' g (takeS s n).2 ∧ Keep 56 B w w'
theorem KeyIn.nil' (B : Nat) (w : World) : KeyIn B w (.slice none 0 0) [] := ⟨⟨none, 0, rfl, fun j c hj => by simp at hj, Nat.le_refl _, fun _ => rfl⟩, by decide⟩
theorem KeyIn.head {B : Nat} {w : World} {a : Option Addr} {c m : Nat} {ks : Key} (h : KeyIn B w (.slice a ks.length c) ks) (n : Nat) (hn : n ≤ ks.length) (hm : m = n) : KeyIn B w (.slice a m c) (ks.take n) := by
  subst hm
  obtain ⟨⟨a', c', e, h1, h2, h3⟩, h4⟩ := h
  cases e
  exact ⟨⟨a, c, by rw [List.length_take, Nat.min_eq_left hn], h1.take m, by rw [List.length_take]; omega, h3⟩, by rw [List.length_take]; omega⟩
theorem KeyIn.cut {B : Nat} {w : World} {a : Option Addr} {c : Nat} {ks : Key} (h : KeyIn B w (.slice a ks.length c) ks) (n : Nat) (hn : n ≤ ks.length) :
    (c = n → KeyIn B w (.slice a (ks.length - n) (c - n)) (ks.drop n)) ∧ (c ≠ n → KeyIn B w (.slice (Option.map (fun x => x.add n) a) (ks.length - n) (c - n)) (ks.drop n)) := by
  obtain ⟨⟨a', c', e, h1, h2, h3⟩, h4⟩ := id h
  cases e
  constructor
  · intro hc
    have e0 : ks.drop n = [] := List.drop_of_length_le (by omega)
    refine ⟨⟨a, c - n, by rw [List.length_drop], fun j b hj => ?_, by rw [e0]; exact Nat.zero_le _, fun e => by have := h3 e; omega⟩, by rw [e0]; decide⟩
    rw [e0] at hj; simp at hj
  · intro hc
    refine ⟨⟨_, c - n, by rw [List.length_drop], fun j b hj => ?_, by rw [List.length_drop]; omega, fun e => ?_⟩, by rw [List.length_drop]; omega⟩
    · rw [List.getElem?_drop] at hj
      obtain ⟨g', off', e1, hg, hc⟩ := h1 (n + j) b hj
      subst e1
      exact ⟨g', off' + n, by simp [add_at], hg, by rw [Nat.add_assoc]; exact hc⟩
    · cases a with
      | none => have := h3 rfl; omega
      | some x => cases e

set_option maxHeartbeats 800000 in
set_option maxRecDepth 100000 in
theorem take_any {B : Nat} {w : World} {g : Nat} {s : Key × Bool} {n : Nat} (hr : Rd B w g s) (hB : B ≤ g) (hn : n ≤ 4294967296) :
    Calls Try.prog 35 #[.pointer (some ⟨g, 0, none⟩), .int .i64 n] w fun e w' => TakePost B w g s n e w' := by
  obtain ⟨r, sh⟩ := s
  obtain ⟨v, hbx, hv⟩ := hr.is
  simp only at hbx hv
  obtain ⟨a, c, rfl⟩ := hv.form
  have hsh := hv.short
  have HV : Hid (KeyIn B w (.slice a r.length c) r) := hv
  have HR : Hid (RBox w g (.slice a r.length c) sh) := hbx
  obtain ⟨k0, k1⟩ := hbx.cell
  have f0 := hbx.open 0
  have f1 := hbx.open 1
  have hnc : r.length ≤ c := by
    obtain ⟨⟨a', c', e1, _, hc, hn⟩, _⟩ := hv
    cases e1; exact hc
  clear hr hv hbx
  by_cases hlt : r.length < n
  · have hz : (r.length : Int) < (n : Int) := by omega
    have HP : Hid (TakePost B w g (r, sh) n (.returned (.slice none 0 0)) (w.setCell ⟨g, 1, none⟩ (.bool true))) := by
      have hk : Keep 56 B w (w.setCell ⟨g, 1, none⟩ (.bool true)) := keep_set HR.out.row hB _
      refine ⟨_, rfl, ?_, ?_, hk⟩
      · rw [takeS, if_pos hlt]; exact KeyIn.nil' _ _
      · rw [takeS, if_pos hlt]; exact ⟨_, ⟨heap_set_same _ HR.out.row⟩, HV.out.below hk.low⟩
    go_enter Try.func35, Try.ntmps35
    go_wp2
    go_ret
    exact HP.out
  · have hz : ¬ (r.length : Int) < (n : Int) := by omega
    have hn2 : n ≤ r.length := by omega
    have hn3 : n ≤ c := by omega
    have hnz : (n : Int) ≤ (r.length : Int) := by omega
    have HE : Hid (∀ v', KeyIn B w v' (r.drop n) → TakePost B w g (r, sh) n (.returned (.slice a n c)) (w.setCell ⟨g, 0, none⟩ v')) := fun v' h' => by
      have hk : Keep 56 B w (w.setCell ⟨g, 0, none⟩ v') := keep_set HR.out.row hB _
      refine ⟨_, rfl, ?_, ?_, hk⟩
      · rw [takeS, if_neg hlt]; exact (HV.out.head n hn2 rfl).below hk.low
      · rw [takeS, if_neg hlt]; exact ⟨_, ⟨heap_set_same _ HR.out.row⟩, h'.below hk.low⟩
    obtain ⟨HC1, HC2⟩ := HV.out.cut n hn2
    have HC1' : Hid _ := HC1
    have HC2' : Hid _ := HC2
    clear HC1 HC2 hlt
    by_cases hcn : c = n
    · go_enter Try.func35, Try.ntmps35
      go_wp2
      go_ret
      subst hcn
      exact HE.out _ (by have := HC1'.out rfl; rw [Nat.sub_self] at this; exact this)
    · go_enter Try.func35, Try.ntmps35
      go_wp2
      go_ret
      exact HE.out _ (HC2'.out hcn)

theorem num_step (b : Key) (k : Nat) (c : UInt8) (h : b[k]? = some c) : num (b.take (k + 1)) = num (b.take k) * 256 + c.toNat := by
  rw [List.take_add_one, h]
  simp [num, List.foldl_append]
theorem or_num8 (N : Nat) (y : UInt8) (hN : N < 72057594037927936) : bits BinOp.or IntKind.u64 ((N : Int) * 256) (y.toNat : Int) = ((N * 256 + y.toNat : Nat) : Int) := by
  have hy := y.toNat_lt
  have e : ((N : Int) * 256) = ((N * 256 : Nat) : Int) := by simp
  rw [e]
  have h1 : (BitVec.ofInt 64 ((N * 256 : Nat) : Int)).toNat = N * 256 := by
    rw [BitVec.ofInt_natCast, BitVec.toNat_ofNat]; exact Nat.mod_eq_of_lt (by omega)
  have h2 : (BitVec.ofInt 64 (y.toNat : Int)).toNat = y.toNat := by
    rw [BitVec.ofInt_natCast, BitVec.toNat_ofNat]; exact Nat.mod_eq_of_lt (by omega)
  have h3 : N * 256 ||| y.toNat = 256 * N + y.toNat := by
    have h := Nat.shiftLeft_add_eq_or_of_lt (b := y.toNat) (i := 8) (by omega) N
    rw [Nat.shiftLeft_eq] at h
    simp at h
    omega
  show IntKind.u64.wrap ((BitVec.ofInt 64 ((N * 256 : Nat) : Int) ||| BitVec.ofInt 64 (y.toNat : Int)).toNat : Int) = _
  rw [BitVec.toNat_or, h1, h2, h3]
  simp [IntKind.wrap, IntKind.bits, IntKind.signed]
  omega
set_option maxHeartbeats 800000 in
set_option maxRecDepth 100000 in
theorem number_any {B : Nat} {w : World} {g : Nat} {s : Key × Bool} {n : Nat} (hr : Rd B w g s) (hB : B ≤ g) (hn : n ≤ 8) :
    Calls Try.prog 23 #[.pointer (some ⟨g, 0, none⟩), .int .i64 n] w fun e w' => e = .returned (.int .u64 (num (takeS s n).1 : Nat)) ∧ Rd B w' g (takeS s n).2 ∧ Keep 56 B w w' := by
  have HT := take_any hr hB (n := n) (by omega)
  have HLE : Hid ((takeS s n).1.length ≤ 8) := by
    rw [Hid, takeS]; split
    · simp
    · simp; omega
  clear hr
  go_enter Try.func23, Try.ntmps23
  go_wp2_with fail
  refine HT.mono ?_
  rintro r w1 ⟨u, rfl, hu, hrd, hk⟩
  generalize hb : (takeS s n).1 = b at hu HLE
  obtain ⟨a, c, rfl⟩ := hu.form
  have hbl : b.length ≤ 8 := HLE.out
  have HU : Hid (KeyIn B w1 (.slice a b.length c) b) := hu
  have HP : Hid (Rd B w1 g (takeS s n).2 ∧ Keep 56 B w w1) := ⟨hrd, hk⟩
  have HBB : Hid (BytesAt B w1 a b) := by
    obtain ⟨⟨a', c', e, hb, _⟩, _⟩ := hu; cases e; exact hb
  clear hu hrd hk HT
  go_wp2_with fail
  go_loopw [5, 12] (fun n i wx => ∃ (k N : Nat), k ≤ b.length ∧ i = .int .i64 k ∧ n = .int .u64 N ∧ N = num (b.take k) ∧ wx = w1) (fun _ i _ => b.length - (intOf i).toNat)
  case atStart => exact ⟨0, 0, by omega, rfl, rfl, by simp [num], rfl⟩
  case round =>
    obtain ⟨k, N, hk, rfl, rfl, hN, rfl⟩ := hrel
    have HN : Hid (N = num (b.take k)) := hN
    clear hN
    by_cases hlt : k < b.length
    · have hz : (k : Int) < (b.length : Int) := by omega
      obtain ⟨c, hc⟩ : ∃ c, b[k]? = some c := ⟨_, List.getElem?_eq_getElem hlt⟩
      obtain ⟨g', off, rfl, _, hcell⟩ := HBB.out k c hc
      have hcl := c.toNat_lt
      have HS : Hid (num (b.take (k + 1)) = N * 256 + c.toNat) := by rw [Hid, num_step b k c hc, HN.out]
      have hNb : N < 72057594037927936 := by
        have h1 := num_bound (b.take k)
        rw [List.length_take, Nat.min_eq_left (by omega)] at h1
        have h2 : 256 ^ k ≤ 256 ^ 7 := Nat.pow_le_pow_right (by decide) (by omega)
        rw [HN.out]
        omega
      clear hc hb
      go_wp2_with fail
      exact ⟨⟨k + 1, N * 256 + c.toNat, by omega, by go_num, by rw [or_num8 N c hNb], HS.out.symm, trivial⟩, by simp [intOf]; omega⟩
    · have hz : ¬ (k : Int) < (b.length : Int) := by omega
      have HE : Hid (N = num b) := by rw [Hid, HN.out, List.take_of_length_le (by omega)]
      go_wp2
      go_ret
      exact ⟨by rw [HE.out, ← hb]; rfl, HP.out⟩
end Go.Proofs.Ytkjjgbaoicjbaab
