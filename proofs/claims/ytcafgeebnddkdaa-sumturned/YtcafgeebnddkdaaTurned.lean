/- The law SumTurned's walk. -/
import Derived.Test.YtcafgeebnddkdaaAppend
import Derived.BigRegion
namespace Go.Proofs.Ytcafgeebnddkdaa
open Go.RowKit

/-- Which of n things the raw number c speaks of. -/
def pickOf (c n : Int) : Int := (if c < 0 then -(c + 1) else c) % n
theorem pickOf_range (c n : Int) (hn : 0 < n) : 0 ≤ pickOf c n ∧ pickOf c n < n := ⟨Int.emod_nonneg _ (by omega), Int.emod_lt_of_pos _ hn⟩
theorem neg_wrapped (c : Int) (h0 : c < 0) (h1 : -9223372036854775808 ≤ c) : wrap64 (-(wrap64 (c + 1))) = -(c + 1) := by
  unfold wrap64
  omega
theorem i64_bounds {c : Int} (h : (Lit.int .i64 c).wf = true) : -9223372036854775808 ≤ c ∧ c ≤ 9223372036854775807 := by
  simpa [Lit.wf, IntKind.min, IntKind.max, IntKind.bits, IntKind.signed] using h

theorem pick_any (c n : Int) (w : World) (hc : (Lit.int .i64 c).wf = true) (hn : 0 < n) (hn2 : n ≤ 1099511627776) :
    Calls Try.prog 15 #[.int .i64 c, .int .i64 n] w fun e w' => e = .returned (.int .i64 (pickOf c n)) ∧ w' = w := by
  have hb := i64_bounds hc
  have HB : Hid (-9223372036854775808 ≤ c ∧ c ≤ 9223372036854775807) := hb
  clear hb hc
  have hz : (n == 0) = false := by rw [beq_eq_false_iff_ne]; omega
  have hz1 : (n == -1) = false := by rw [beq_eq_false_iff_ne]; omega
  by_cases h : c < 0
  · have e : (wrap64 (-wrap64 (c + 1))).tmod n = pickOf c n := by
      have hc := HB.out
      rw [neg_wrapped c h hc.1]
      unfold pickOf
      rw [if_pos h, Int.tmod_eq_emod_of_nonneg (by omega)]
    have HE : Hid _ := e
    clear e
    go_enter Try.func15, Try.ntmps15
    go_wp2
    go_ret
    exact ⟨ret_int HE.out, rfl⟩
  · have e : c % n = pickOf c n := by unfold pickOf; rw [if_neg h]
    have HE : Hid _ := e
    clear e
    go_enter Try.func15, Try.ntmps15
    go_wp2
    go_ret
    exact ⟨ret_int HE.out, rfl⟩

/-- The bits below i of a word. -/
def lowBits (run : BitVec 64) : Nat → BitVec 64
  | 0 => 0#64
  | i + 1 => lowBits run i ^^^ (if run.getLsbD i then one i else 0#64)
theorem lowBits_bit (run : BitVec 64) (i j : Nat) (hj : j < 64) : (lowBits run i).getLsbD j = (decide (j < i) && run.getLsbD j) := by
  induction i with
  | zero => simp [lowBits]
  | succ i ih =>
    simp only [lowBits, BitVec.getLsbD_xor, ih]
    by_cases e : j = i
    · subst e
      have h1 : ¬ j < j := by omega
      have h2 : j < j + 1 := by omega
      simp only [h1, h2, decide_false, decide_true, Bool.false_and, Bool.true_and, Bool.false_xor]
      cases run.getLsbD j
      · simp
      · simp [one_bit _ _ hj]
    · have h1 : (if run.getLsbD i = true then one i else 0#64).getLsbD j = false := by
        cases run.getLsbD i
        · simp
        · simp [one_bit _ _ hj]; omega
      rw [h1, Bool.xor_false]
      by_cases h : j < i
      · rw [decide_eq_true h, decide_eq_true (by omega)]
      · rw [decide_eq_false h, decide_eq_false (by omega)]
theorem lowBits_set (run : BitVec 64) (i : Nat) (hi : i < 64) (h : run.getLsbD i = true) : lowBits run (i + 1) ≠ 0#64 := fun e => by
  have := lowBits_bit run (i + 1) i hi
  rw [e, h] at this
  simp at this
theorem lowBits_same (run : BitVec 64) (i : Nat) (h : run.getLsbD i = false) : lowBits run (i + 1) = lowBits run i := by
  simp [lowBits, h]

/-- One bit of a text turned, seen from the first that may be. -/
theorem flip_window (s : BitVec 64) (bs cs : List UInt8) (run : BitVec 64) (frm i : Nat) (hl : cs.length = bs.length) (hi : i < 64) (hin : frm + i < 8 * bs.length) (hr : run.getLsbD i = true)
    (c : UInt8) (hc : cs[(frm + i) / 8]? = some c) (d : UInt8) (hd : wide d = one ((frm + i) % 8))
    (h : F s cs = F s bs ^^^ Tn (8 * bs.length - frm) (lowBits run i)) :
    F s (cs.set ((frm + i) / 8) (c ^^^ d)) = F s bs ^^^ Tn (8 * bs.length - frm) (lowBits run (i + 1)) := by
  rw [F_flip s cs _ c d hc, h, hl, hd, lowBits, hr, if_pos rfl, Tn_xor, ← BitVec.xor_assoc]
  congr 1
  by_cases hij : (frm + i) % 8 ≤ i
  · have e1 : 8 * bs.length - frm = 8 * (bs.length - (frm + i) / 8) + (i - (frm + i) % 8) := by omega
    have e2 := Tn_one (i - (frm + i) % 8) ((frm + i) % 8) (by omega)
    rw [show i - (frm + i) % 8 + (frm + i) % 8 = i by omega] at e2
    rw [e1, Tn_add, e2]
  · have e1 : 8 * (bs.length - (frm + i) / 8) = 8 * bs.length - frm + ((frm + i) % 8 - i) := by omega
    have e2 := Tn_one ((frm + i) % 8 - i) i (by omega)
    rw [show (frm + i) % 8 - i + i = (frm + i) % 8 by omega] at e2
    rw [e1, Tn_add, e2]
theorem turned_sum (bs cs : List UInt8) (k : Nat) (D : BitVec 64) (h : F (~~~ (0#64)) cs = F (~~~ (0#64)) bs ^^^ Tn k D) : (sumMore 0#64 bs = sumMore 0#64 cs) ↔ D = 0#64 := by
  unfold sumMore
  rw [h]
  constructor
  · intro e
    have e1 : F (~~~ (0#64)) bs = F (~~~ (0#64)) bs ^^^ Tn k D := by
      have := congrArg (fun v => ~~~ v) e
      simpa using this
    have e2 : Tn k D = 0#64 := by
      have := congrArg (fun v => F (~~~ (0#64)) bs ^^^ v) e1
      simp only [← BitVec.xor_assoc, BitVec.xor_self, BitVec.zero_xor] at this
      exact this.symm
    exact Tn_null e2
  · intro e
    rw [e, Tn_zero]
    simp

theorem run_bit (run : BitVec 64) (k : Nat) : ((((run.toNat : Int) / 2 ^ k).tmod 2 == 1) : Bool) = run.getLsbD k := by
  have e : (run.toNat : Int) / 2 ^ k = ((run.toNat / 2 ^ k : Nat) : Int) := by simp
  rw [e, ← BitVec.testBit_toNat, Nat.testBit_eq_decide_div_mod_eq]
  generalize run.toNat / 2 ^ k = m
  rw [Int.tmod_eq_emod_of_nonneg (by omega)]
  by_cases h : m % 2 = 1
  · rw [decide_eq_true h, beq_iff_eq]
    omega
  · rw [decide_eq_false h, beq_eq_false_iff_ne]
    omega
theorem bit_byte (r : Nat) (h : r < 8) : ∃ d : UInt8, wide d = one r ∧ ∀ c : UInt8, bits .xor .u8 (c.toNat : Int) (2 ^ r % 256) = ((c ^^^ d).toNat : Int) := by
  have hp : (2 : Nat) ^ r < 256 := by have := Nat.pow_lt_pow_right (a := 2) (by decide) h; simpa using this
  have hd : (UInt8.ofNat (2 ^ r)).toNat = 2 ^ r := by rw [UInt8.toNat_ofNat', Nat.mod_eq_of_lt hp]
  refine ⟨UInt8.ofNat (2 ^ r), ?_, fun c => ?_⟩
  · unfold wide one
    rw [hd]
    apply BitVec.eq_of_toNat_eq
    simp [Nat.shiftLeft_eq]
  · have e : ((2 : Int) ^ r % 256) = ((UInt8.ofNat (2 ^ r)).toNat : Int) := by
      rw [hd]
      have : ((2 ^ r : Nat) : Int) = (2 : Int) ^ r := by simp
      rw [← this]
      omega
    rw [e, xor_byte]

set_option maxHeartbeats 800000 in
set_option maxRecDepth 100000 in
theorem turned_walk (w : World) (a : Option Addr) (ca : Nat) (x : List UInt8) (at_ : Int) (run : BitVec 64) (ha : BytesAt w.heap.size w a x) (la : x.length ≤ 140737488355328) (na : a = none → ca = 0) (hat : (Lit.int .i64 at_).wf = true) :
    Calls Try.prog 7 #[.slice a x.length ca, .int .i64 at_, .int .u64 (run.toNat : Int)] w fun e w' => e = .returned (.bool true) ∧ Below w.heap.size w w' := by
  have HA : Hid (BytesAt w.heap.size w a x) := ha
  have NA : Hid (a = none → ca = 0) := na
  have HAT : Hid _ := hat
  clear ha na hat
  go_enter Try.func7, Try.ntmps7
  go_wp2_with fail
  refine (shown_any _).mono ?_
  rintro _ w1 ⟨rfl, hb1⟩
  have HB1 : Hid (Below w.heap.size w w1) := hb1
  clear hb1
  by_cases h0 : x.length = 0
  · have h0z : (x.length : Int) = 0 := by omega
    go_wp2
    go_ret
    exact ⟨rfl, HB1.out⟩
  have h0z : ((x.length : Int) == 0) = false := by rw [beq_eq_false_iff_ne]; omega
  by_cases h1 : 2147483647 < (x.length : Int)
  · go_wp2
    go_ret
    exact ⟨rfl, HB1.out⟩
  go_wp2_with fail
  refine (pick_any _ _ _ HAT.out (by omega) (by omega)).mono ?_
  rintro _ _ ⟨rfl, rfl⟩
  obtain ⟨f, hf⟩ : ∃ f : Nat, pickOf at_ (8 * (x.length : Int)) = (f : Int) := ⟨(pickOf at_ (8 * (x.length : Int))).toNat, by have := (pickOf_range at_ (8 * (x.length : Int)) (by omega)).1; omega⟩
  have hf8 : f < 8 * x.length := by have := (pickOf_range at_ (8 * (x.length : Int)) (by omega)).2; omega
  rw [hf]
  clear hf
  rename_i wq
  have HE : Hid (Below w.heap.size w (wq.alloc (.cells #[] 5))) := HB1.out.alloc HB1.out.size _
  go_wp2_with (first
    | (at_builtin; refine wpList_append_bytes rfl _ _ rfl wq.heap.size wq.heap.size 0 0 [] rfl (owns_empty wq) a ca x rfl (HA.out.here HE.out) NA.out (by omega) (by simp) ?_
       intro g1 c1 w2 ho1 hg1
       rw [Nat.zero_add] at ho1 ⊢
       have HG1 : Hid (wq.heap.size ≤ g1) := own_base ho1
       have HO1 : Hid (w2.ownsRow wq.heap.size 5 1 (.slice (some ⟨g1, 0, none⟩) x.length c1) x.length (x.map encB)) := ho1
       have HE1 : Hid (Below w.heap.size w w2) := HE.out.grown hg1 (by have := HE.out.size; omega) (fun k e => by cases e; exact HB1.out.size)
       clear ho1 hg1))
  go_loopw [11, 10] (fun i t wr => ∃ (k : Nat) (cs : List UInt8), k ≤ 64 ∧ i = .int .i64 k ∧ t = .bool (decide (lowBits run k ≠ 0#64)) ∧ cs.length = x.length ∧ wr.ownsRow wq.heap.size 5 1 (.slice (some ⟨g1, 0, none⟩) x.length c1) x.length (cs.map encB) ∧ F (~~~ (0#64)) cs = F (~~~ (0#64)) x ^^^ Tn (8 * x.length - f) (lowBits run k) ∧ Below w.heap.size w wr) (fun i _ _ => 64 - (intOf i).toNat)
  case atStart => exact ⟨0, x, by omega, rfl, by simp [lowBits], rfl, HO1.out, by simp [lowBits, Tn_zero], HE1.out⟩
  case round =>
    obtain ⟨k, cs, hk, rfl, rfl, hcl, hown, hF, hbe⟩ := hrel
    have HOW : Hid (wr.ownsRow wq.heap.size 5 1 (.slice (some ⟨g1, 0, none⟩) x.length c1) x.length (cs.map encB)) := hown
    have HF : Hid _ := hF
    have HBE : Hid (Below w.heap.size w wr) := hbe
    have HCL : Hid _ := hcl
    clear hF hbe hcl
    by_cases hgo : k < 64 ∧ f + k < 8 * x.length
    · obtain ⟨hk64, hfk⟩ := hgo
      have hkz : (k : Int) < 64 := by omega
      have hfz : (f : Int) + (k : Int) < 8 * (x.length : Int) := by omega
      have hrb := run_bit run k
      cases hr : run.getLsbD k with
      | false =>
        rw [hr] at hrb
        clear hown
        go_wp2
        refine ⟨⟨k + 1, cs, by omega, by go_num, by rw [lowBits_same _ _ hr], HCL.out, HOW.out, by rw [lowBits_same _ _ hr]; exact HF.out, HBE.out⟩, by simp [intOf]; omega⟩
      | true =>
        rw [hr] at hrb
        obtain ⟨q, r, hr8, hqr⟩ : ∃ q r : Nat, r < 8 ∧ f + k = 8 * q + r := ⟨(f + k) / 8, (f + k) % 8, by omega, by omega⟩
        have hd1 : ((f : Int) + (k : Int)).tdiv 8 = (q : Int) := by rw [Int.tdiv_eq_ediv_of_nonneg (by omega)]; omega
        have hd2 : ((f : Int) + (k : Int)) / 8 = (q : Int) := by omega
        have hm1 : ((f : Int) + (k : Int)).tmod 8 = (r : Int) := by rw [Int.tmod_eq_emod_of_nonneg (by omega)]; omega
        have hm2 : ((f : Int) + (k : Int)) % 8 = (r : Int) := by omega
        have hqx : q < x.length := by omega
        have hqz : (q : Int) < (x.length : Int) := by omega
        obtain ⟨c, hc⟩ : ∃ c, cs[q]? = some c := ⟨cs[q]'(by rw [HCL.out]; exact hqx), List.getElem?_eq_getElem (by rw [HCL.out]; exact hqx)⟩
        have hcell := hown.cellAt (j := q) (by omega)
        have hfzc := hown.frozenAt (j := q)
        rw [List.getElem?_map, hc] at hcell
        have hcell' : wr.cell? ⟨g1, q, none⟩ = some (.int .u8 (c.toNat : Int)) := by simpa [encB] using hcell
        have HCC : Hid _ := hc
        have HQR : Hid _ := hqr
        clear hown hcell hc hqr
        obtain ⟨d, hd, hdx⟩ := bit_byte r hr8
        have HD : Hid _ := hd
        have HDX : Hid _ := hdx
        clear hd hdx
        go_wp2
        go_region
        go_wp2
        rw [HDX.out]
        obtain ⟨h1, h2⟩ := World.ownsRow.stored (h := HOW.out) q (.int .u8 ((c ^^^ d).toNat : Int))
        have eset : (cs.map encB).set q (.int .u8 ((c ^^^ d).toNat : Int)) = (cs.set q (c ^^^ d)).map encB := by rw [List.map_set]; rfl
        rw [eset] at h1
        have eq1 : (f + k) / 8 = q := by have := HQR.out; omega
        have er1 : (f + k) % 8 = r := by have := HQR.out; omega
        have hw := flip_window (~~~ (0#64)) x cs run f k HCL.out hk64 hfk hr c (by rw [eq1]; exact HCC.out) d (by rw [er1]; exact HD.out) HF.out
        rw [eq1] at hw
        refine ⟨⟨k + 1, cs.set q (c ^^^ d), by omega, by go_num, by rw [decide_eq_true (lowBits_set run k hk64 hr)], by simp [HCL.out], h1.drew, hw, (HBE.out.setCell (Nat.le_trans HB1.out.size HG1.out) _).drew⟩, by simp [intOf]; omega⟩
    · clear hown
      go_wp2_with fail
      all_goals
        refine (of_any _ _ _ _ (HA.out.here HBE.out) (by omega)).mono ?_
        rintro _ w5 ⟨rfl, hb5⟩
        have HB5 : Hid (Below wr.heap.size wr w5) := hb5
        have HE5 : Hid (Below w.heap.size w w5) := HBE.out.trans (hb5.mono HBE.out.size)
        clear hb5
        go_wp2_with fail
        refine (of_len _ _ _ _ cs ((bytes_row HOW.out).here HB5.out) HCL.out (by omega)).mono ?_
        rintro _ w6 ⟨rfl, hb6⟩
        have HE6 : Hid (Below w.heap.size w w6) := HE5.out.trans (hb6.mono HE5.out.size)
        clear hb6
        have hts := turned_sum x cs _ _ HF.out
        generalize sumMore 0#64 x = s1 at *
        generalize sumMore 0#64 cs = s2 at *
        generalize lowBits run k = D at *
        by_cases hD : D = 0#64
        · obtain rfl := hts.2 hD
          subst hD
          clear hts HF
          go_wp2
          go_ret
          exact ⟨rfl, HE6.out⟩
        · have hne : ((s1.toNat : Int) == (s2.toNat : Int)) = false := by
            rw [beq_eq_false_iff_ne]
            intro e
            exact hD (hts.1 (BitVec.eq_of_toNat_eq (by omega)))
          have hdd : decide (D = 0#64) = false := decide_eq_false hD
          have HBN : Hid (((s1.toNat : Int) != (s2.toNat : Int)) = true) := by show _ = _; simp [bne, hne]
          clear hts HF
          go_wp2
          go_ret
          exact ⟨congrArg (fun b => Ending.returned (.bool b)) HBN.out, HE6.out⟩
end Go.Proofs.Ytcafgeebnddkdaa
