/- The law's 'summed', and the law SumSums's walk. -/
import Derived.Test.YtcafgeebnddkdaaLent
namespace Go.Proofs.Ytcafgeebnddkdaa
open Go.RowKit

theorem more_upto (s : BitVec 64) (w : World) (a : Option Addr) (n cap : Nat) (bs : List UInt8) (hb : BytesAt w.heap.size w a bs) (hn : bs.length = n) (hlen : n ≤ 140737488355328) :
    Calls Try.prog 14 #[.int .u64 (s.toNat : Int), .slice a n cap] w fun e w' => e = .returned (.int .u64 ((sumMore s bs).toNat : Int)) ∧ Below w.heap.size w w' := by
  subst hn
  exact more_any s w a cap bs hb hlen
theorem moreR_upto (s : BitVec 64) (w : World) (a : Option Addr) (n cap : Nat) (bs : List UInt8) (hb : BytesAt w.heap.size w a bs) (hn : bs.length = n) (hlen : n ≤ 140737488355328) :
    Calls Try.prog 18 #[.int .u64 (s.toNat : Int), .slice a n cap] w fun e w' => e = .returned (.int .u64 ((sumMore s bs).toNat : Int)) ∧ w' = w := by
  subst hn
  exact moreR_any s w a cap bs hb hlen
theorem ofR_upto (w : World) (a : Option Addr) (n cap : Nat) (bs : List UInt8) (hb : BytesAt w.heap.size w a bs) (hn : bs.length = n) (hlen : n ≤ 140737488355328) :
    Calls Try.prog 17 #[.slice a n cap] w fun e w' => e = .returned (.int .u64 ((sumMore 0#64 bs).toNat : Int)) ∧ w' = w := by
  subst hn
  exact ofR_any w a cap bs hb hlen
theorem lent_take (bs : List UInt8) : (lentL bs 40).take bs.length = bs := by simp [lentL]
theorem RowIs.below {B g : Nat} {w w' : World} {L : List UInt8} (h : RowIs w g L) (hb : Below B w w') (hg : g < B) : RowIs w' g L := by
  unfold RowIs
  rw [hb.block g hg]
  exact h
theorem RowIs.lt {g : Nat} {w : World} {L : List UInt8} (h : RowIs w g L) : g < w.heap.size := (Array.getElem?_eq_some_iff.1 h).1

set_option maxHeartbeats 1600000 in
set_option maxRecDepth 100000 in
theorem summed_any (s : BitVec 64) (w : World) (a : Option Addr) (cap : Nat) (bs : List UInt8) (hb : BytesAt w.heap.size w a bs) (hlen : bs.length ≤ 140737488351232) (hsmall : bs.length ≤ 2147483647) :
    Calls Try.prog 10 #[.slice a bs.length cap, .int .u64 (s.toNat : Int)] w fun e w' => e = .returned (.bool true) ∧ Below w.heap.size w w' := by
  have HB : Hid (BytesAt w.heap.size w a bs) := hb
  clear hb
  go_enter Try.func10, Try.ntmps10
  go_wp2_with fail
  refine (lent_any _ _ _ _ HB.out hlen).mono ?_
  rintro _ w1 ⟨rfl, hr1, hb1⟩
  obtain ⟨g, hg⟩ : ∃ g, g = w.heap.size := ⟨_, rfl⟩
  have HG : Hid (w.heap.size ≤ g) := by show _ ≤ _; omega
  have HR1 : Hid (RowIs w1 g (lentL bs 40)) := by rw [hg]; exact hr1
  have HB1 : Hid (Below w.heap.size w w1) := hb1
  rw [← hg]
  clear hr1 hb1 hg
  go_wp2
  go_loopw [6] (fun i wr => ∃ k : Nat, k ≤ 2 ∧ i = .int .i64 k ∧ RowIs wr g (lentL bs 40) ∧ Below w.heap.size w wr) (fun i _ => 2 - (intOf i).toNat)
  case atStart => exact ⟨0, by omega, rfl, HR1.out, HB1.out⟩
  case round =>
    obtain ⟨k, hk, rfl, hrow, hbe⟩ := hrel
    have HR : Hid (RowIs wr g (lentL bs 40)) := hrow
    have HBE : Hid (Below w.heap.size w wr) := hbe
    clear hrow hbe
    have hbt : (bs.length : Int) ≤ (bs.length : Int) + 40 := by omega
    by_cases hlt : k < 2
    · have hkz : (k : Int) < 2 := by omega
      go_wp2_with fail
      refine (of_len _ _ _ _ bs (by have := HR.out.bytes.take bs.length; rw [lent_take] at this; exact this) rfl (by omega)).mono ?_
      rintro _ w2 ⟨rfl, hb2⟩
      have HR2 : Hid (RowIs w2 g (lentL bs 40)) := HR.out.below hb2 HR.out.lt
      have HBE2 : Hid (Below w.heap.size w w2) := HBE.out.trans (hb2.mono HBE.out.size)
      clear hb2
      go_wp2_with fail
      refine (more_upto _ _ _ _ _ bs (by have := HR2.out.bytes.take bs.length; rw [lent_take] at this; exact this) rfl (by omega)).mono ?_
      rintro _ w3 ⟨rfl, hb3⟩
      have HR3 : Hid (RowIs w3 g (lentL bs 40)) := HR2.out.below hb3 HR2.out.lt
      have HBE3 : Hid (Below w.heap.size w w3) := HBE2.out.trans (hb3.mono HBE2.out.size)
      clear hb3
      go_wp2_with fail
      refine (ofR_any _ _ _ _ (HB.out.here HBE3.out) (by omega)).mono ?_
      rintro _ _ ⟨rfl, rfl⟩
      go_wp2_with fail
      refine (moreR_any _ _ _ _ _ (HB.out.here HBE3.out) (by omega)).mono ?_
      rintro _ _ ⟨rfl, rfl⟩
      go_wp2
      exact ⟨⟨k + 1, by omega, by go_num, HR3.out, HBE3.out⟩, by simp [intOf]; omega⟩
    · obtain rfl : k = 2 := by omega
      go_wp2_with fail
      refine (back_any w.heap.size g w _ _ _ _ (HB.out.below HBE.out) HG.out HBE.out HR.out hlen).mono ?_
      rintro _ w2 ⟨rfl, hr2, hb2⟩
      obtain ⟨L, hL⟩ : ∃ L, L = overL (lentL bs 40) (bs.length + 40) := ⟨_, rfl⟩
      have HLL : Hid (L.length = bs.length + 40) := by show _ = _; rw [hL, overL_length, lentL_length _ _ (by omega)]
      rw [← hL] at hr2
      have HR2 : Hid (RowIs w2 g L) := hr2
      have HBE2 : Hid (Below w.heap.size w w2) := hb2
      have HE : Hid (Below w.heap.size w (w2.alloc (.cells #[] 5))) := HBE2.out.alloc HBE2.out.size _
      have HRE : Hid (RowIs (w2.alloc (.cells #[] 5)) g L) := hr2.below ((Below.refl w2.heap.size w2).alloc (Nat.le_refl _) _) hr2.lt
      obtain ⟨y, hy⟩ : ∃ y, y = L.take bs.length := ⟨_, rfl⟩
      have hyl : y.length = bs.length := by rw [hy, List.length_take, HLL.out]; omega
      have HYL : Hid (y.length = bs.length) := hyl
      have HYT : Hid (L.take bs.length = y) := hy.symm
      clear hr2 hb2 hL hy hyl
      go_wp2_with (first
        | (at_builtin; refine wpList_append_to rfl _ _ rfl w2.heap.size w2.heap.size 0 0 [] rfl (owns_empty w2) (some ⟨g, 0, none⟩) (bs.length + 40) bs.length y HYL.out rfl (by have := HRE.out.bytes.take bs.length; rw [HYT.out] at this; exact this) (fun e => by cases e) (by omega) (by simp) ?_
           intro g3 c3 w3 ho3 hg3
           rw [Nat.zero_add] at ho3 ⊢
           have HO3 : Hid (w3.ownsRow w2.heap.size 5 1 (.slice (some ⟨g3, 0, none⟩) bs.length c3) bs.length (([] ++ y).map encB)) := ho3
           have HB3 : Hid (Below w2.heap.size w2 w3) := ((Below.refl w2.heap.size w2).alloc (Nat.le_refl _) (.cells #[] 5)).grown hg3 (by simp) (fun k e => by cases e; exact Nat.le_refl _)
           clear ho3 hg3))
      have HR3 : Hid (RowIs w3 g L) := HR2.out.below HB3.out HR2.out.lt
      have HBE3 : Hid (Below w.heap.size w w3) := HBE2.out.trans (HB3.out.mono HBE2.out.size)
      refine (more_upto _ _ _ _ _ y (by have := HR3.out.bytes.take bs.length; rw [HYT.out] at this; exact this) HYL.out (by omega)).mono ?_
      rintro _ w4 ⟨rfl, hb4⟩
      have HB4 : Hid (Below w3.heap.size w3 w4) := hb4
      have HR4 : Hid (RowIs w4 g L) := HR3.out.below hb4 HR3.out.lt
      have HBE4 : Hid (Below w.heap.size w w4) := HBE3.out.trans (hb4.mono HBE3.out.size)
      clear hb4
      go_wp2_with fail
      refine (of_len _ _ _ _ y (by have := HR4.out.bytes.take bs.length; rw [HYT.out] at this; exact this) HYL.out (by omega)).mono ?_
      rintro _ w5 ⟨rfl, hb5⟩
      have HB5 : Hid (Below w3.heap.size w3 w5) := HB4.out.trans (hb5.mono HB4.out.size)
      have HBE5 : Hid (Below w.heap.size w w5) := HBE4.out.trans (hb5.mono HBE4.out.size)
      clear hb5
      go_wp2_with fail
      refine (ofR_upto _ _ _ _ y ((bytes_row HO3.out).here HB5.out) HYL.out (by omega)).mono ?_
      rintro _ _ ⟨rfl, rfl⟩
      go_wp2_with fail
      refine (moreR_upto _ _ _ _ _ y ((bytes_row HO3.out).here HB5.out) HYL.out (by omega)).mono ?_
      rintro _ _ ⟨rfl, rfl⟩
      go_wp2
      go_ret
      exact ⟨rfl, HBE5.out⟩

set_option maxHeartbeats 800000 in
set_option maxRecDepth 100000 in
theorem sums_walk (w : World) (a b : Option Addr) (ca cb : Nat) (x y : List UInt8) (s : BitVec 64) (ha : BytesAt w.heap.size w a x) (hb : BytesAt w.heap.size w b y) (la : x.length ≤ 1048576) (lb : y.length ≤ 1048576) :
    Calls Try.prog 3 #[.slice a x.length ca, .slice b y.length cb, .int .u64 (s.toNat : Int)] w fun e w' => e = .returned (.bool true) ∧ Below w.heap.size w w' := by
  have HA : Hid (BytesAt w.heap.size w a x) := ha
  have HB : Hid (BytesAt w.heap.size w b y) := hb
  clear ha hb
  go_enter Try.func3, Try.ntmps3
  go_wp2_with fail
  refine (shown_any _).mono ?_
  rintro _ w1 ⟨rfl, hb1⟩
  have HE1 : Hid (Below w.heap.size w w1) := hb1
  clear hb1
  go_wp2_with fail
  refine (summed_any _ _ _ _ _ (HA.out.here HE1.out) (by omega) (by omega)).mono ?_
  rintro _ w2 ⟨rfl, hb2⟩
  have HE2 : Hid (Below w.heap.size w w2) := HE1.out.trans (hb2.mono HE1.out.size)
  clear hb2
  go_wp2_with fail
  refine (summed_any _ _ _ _ _ (HB.out.here HE2.out) (by omega) (by omega)).mono ?_
  rintro _ w3 ⟨rfl, hb3⟩
  have HE3 : Hid (Below w.heap.size w w3) := HE2.out.trans (hb3.mono HE2.out.size)
  clear hb3
  go_wp2_with fail
  refine (summed_any _ _ _ _ _ (HA.out.here HE3.out) (by omega) (by omega)).mono ?_
  rintro _ w4 ⟨rfl, hb4⟩
  have HE4 : Hid (Below w.heap.size w w4) := HE3.out.trans (hb4.mono HE3.out.size)
  clear hb4
  go_wp2
  go_ret
  exact ⟨rfl, HE4.out⟩
end Go.Proofs.Ytcafgeebnddkdaa
