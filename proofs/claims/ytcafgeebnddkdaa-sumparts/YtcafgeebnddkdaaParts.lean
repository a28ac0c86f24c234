/- The law SumParts's walk. -/
import Derived.Test.YtcafgeebnddkdaaAppend
import Derived.Test.YtcafgeebnddkdaaJoin
namespace Go.Proofs.Ytcafgeebnddkdaa
open Go.RowKit

theorem more_len (s : BitVec 64) (w : World) (a : Option Addr) (n cap : Nat) (bs : List UInt8) (hb : BytesAt w.heap.size w a bs) (hn : bs.length = n) (hlen : n ≤ 140737488355328) :
    Calls Try.prog 14 #[.int .u64 (s.toNat : Int), .slice a n cap] w fun e w' => e = .returned (.int .u64 ((sumMore s bs).toNat : Int)) ∧ Below w.heap.size w w' := by
  subst hn
  exact more_any s w a cap bs hb hlen
theorem join_more (s : BitVec 64) (b : List UInt8) : joined s (sumMore 0#64 b) ((b.length : Int).toNat) = sumMore s b := by
  rw [Int.toNat_natCast, ← more_joined]
theorem join_right (p y z : List UInt8) : joined (sumMore 0#64 p) (sumMore (sumMore 0#64 y) z) (((y.length : Int) + (z.length : Int)).toNat) = sumMore (sumMore (sumMore 0#64 p) y) z := by
  have e : ((y.length : Int) + (z.length : Int)).toNat = y.length + z.length := by omega
  rw [e, more_joined (sumMore 0#64 y) z, ← joined_joined, ← more_joined, ← more_joined]
theorem none_at (w : World) : BytesAt w.heap.size w none [] := fun j c hj => by simp at hj

set_option maxHeartbeats 800000 in
set_option maxRecDepth 100000 in
theorem parts_walk (w : World) (a b c : Option Addr) (ca cb cc : Nat) (x y z : List UInt8) (ha : BytesAt w.heap.size w a x) (hb : BytesAt w.heap.size w b y) (hc : BytesAt w.heap.size w c z)
    (la : x.length ≤ 140737488355328) (lb : y.length ≤ 140737488355328) (lc : z.length ≤ 140737488355328) (na : a = none → ca = 0) (nb : b = none → cb = 0) (nc : c = none → cc = 0) :
    Calls Try.prog 5 #[.slice a x.length ca, .slice b y.length cb, .slice c z.length cc] w fun e w' => e = .returned (.bool true) ∧ Below w.heap.size w w' := by
  have HA : Hid (BytesAt w.heap.size w a x) := ha
  have HB : Hid (BytesAt w.heap.size w b y) := hb
  have HC : Hid (BytesAt w.heap.size w c z) := hc
  have NA : Hid (a = none → ca = 0) := na
  have NB : Hid (b = none → cb = 0) := nb
  have NC : Hid (c = none → cc = 0) := nc
  clear ha hb hc na nb nc
  go_enter Try.func5, Try.ntmps5
  go_wp2_with fail
  refine (shown_any _).mono ?_
  rintro _ w1 ⟨rfl, hb1⟩
  have HB1 : Hid (Below w.heap.size w w1) := hb1
  clear hb1
  by_cases h1 : 2147483647 < (x.length : Int)
  · go_wp2
    go_ret
    exact ⟨rfl, HB1.out⟩
  by_cases h2 : 2147483647 - (x.length : Int) < (y.length : Int)
  · go_wp2
    go_ret
    exact ⟨rfl, HB1.out⟩
  by_cases h3 : 2147483647 - (x.length : Int) - (y.length : Int) < (z.length : Int)
  · go_wp2
    go_ret
    exact ⟨rfl, HB1.out⟩
  have HE : Hid (Below w.heap.size w (w1.alloc (.cells #[] 5))) := HB1.out.alloc HB1.out.size _
  have HL1 : Hid (x.length + y.length + z.length ≤ 2147483647) := by show _ ≤ _; omega
  go_wp2_with (first
    | (go_at_call 13; fail)
    | (at_builtin; refine wpList_append_bytes rfl _ _ rfl w1.heap.size w1.heap.size 0 0 [] rfl (owns_empty w1) a ca x rfl (HA.out.here HE.out) NA.out (by have := HL1.out; simp; omega) (by simp) ?_
       intro g1 c1 w2 ho1 hg1
       rw [Nat.zero_add] at ho1 ⊢
       have HG1 : Hid (w1.heap.size ≤ g1) := own_base ho1
       have HO1 : Hid _ := ho1
       have HE1 : Hid (Below w.heap.size w w2) := HE.out.grown hg1 (by have := HE.out.size; omega) (fun k e => by cases e; exact HB1.out.size)
       have HS1 : Hid (w1.heap.size ≤ w2.heap.size) := Nat.le_trans (by simp) hg1.size
       clear ho1 hg1)
    | (at_builtin; refine wpList_append_bytes rfl _ _ rfl w1.heap.size g1 x.length c1 ([] ++ x) rfl HO1.out b cb y rfl (HB.out.here HE1.out) NB.out (by have := HL1.out; simp; omega) HS1.out ?_
       intro g2 c2 w3 ho2 hg2
       have HG2 : Hid (w1.heap.size ≤ g2) := own_base ho2
       have HO2 : Hid _ := ho2
       have HE2 : Hid (Below w.heap.size w w3) := HE1.out.grown hg2 HE1.out.size (fun k e => by cases e; exact Nat.le_trans HB1.out.size HG1.out)
       have HS2 : Hid (w1.heap.size ≤ w3.heap.size) := Nat.le_trans HS1.out hg2.size
       clear ho2 hg2)
    | (at_builtin; refine wpList_append_bytes rfl _ _ rfl w1.heap.size g2 (x.length + y.length) c2 ([] ++ x ++ y) rfl HO2.out c cc z rfl (HC.out.here HE2.out) NC.out (by have := HL1.out; simp; omega) HS2.out ?_
       intro g3 c3 w4 ho3 hg3
       have HO3 : Hid _ := ho3
       have HE3 : Hid (Below w.heap.size w w4) := HE2.out.grown hg3 HE2.out.size (fun k e => by cases e; exact Nat.le_trans HB1.out.size HG2.out)
       clear ho3 hg3))
  have HS : Hid (sumMore 0#64 ([] ++ x ++ y ++ z) = sumMore (sumMore (sumMore 0#64 x) y) z) := by
    show _ = _
    rw [List.nil_append, more_append, more_append]
  refine (of_len _ _ _ _ _ (bytes_row HO3.out) (by simp; omega) (by omega)).mono ?_
  rintro _ w5 ⟨rfl, hb5⟩
  have HE5 : Hid (Below w.heap.size w w5) := HE3.out.trans (hb5.mono HE3.out.size)
  clear hb5
  rw [HS.out]
  have HR : Hid _ := join_right x y z
  have HJ1 : Hid _ := join_more (sumMore 0#64 x) y
  have HJ2 : Hid _ := join_more (sumMore (sumMore 0#64 x) y) z
  have HJ3 : Hid _ := join_more (sumMore 0#64 y) z
  go_wp2_with fail
  refine (of_len _ _ _ _ _ (HA.out.here HE5.out) rfl (by omega)).mono ?_
  rintro _ w6 ⟨rfl, hb6⟩
  have HE6 : Hid (Below w.heap.size w w6) := HE5.out.trans (hb6.mono HE5.out.size)
  clear hb6
  go_wp2_with fail
  refine (of_len _ _ _ _ _ (HB.out.here HE6.out) rfl (by omega)).mono ?_
  rintro _ w7 ⟨rfl, hb7⟩
  have HE7 : Hid (Below w.heap.size w w7) := HE6.out.trans (hb7.mono HE6.out.size)
  clear hb7
  go_wp2_with fail
  refine (of_len _ _ _ _ _ (HC.out.here HE7.out) rfl (by omega)).mono ?_
  rintro _ w8 ⟨rfl, hb8⟩
  have HE8 : Hid (Below w.heap.size w w8) := HE7.out.trans (hb8.mono HE7.out.size)
  clear hb8
  go_wp2_with fail
  refine (more_len _ _ _ _ _ _ (HB.out.here HE8.out) rfl (by omega)).mono ?_
  rintro _ w9 ⟨rfl, hb9⟩
  have HE9 : Hid (Below w.heap.size w w9) := HE8.out.trans (hb9.mono HE8.out.size)
  clear hb9
  go_wp2_with fail
  refine (more_len _ _ _ _ _ _ (HC.out.here HE9.out) rfl (by omega)).mono ?_
  rintro _ w10 ⟨rfl, hb10⟩
  have HE10 : Hid (Below w.heap.size w w10) := HE9.out.trans (hb10.mono HE9.out.size)
  clear hb10
  go_wp2_with fail
  refine (join_any _ _ _ _ (by omega)).mono ?_
  rintro _ _ ⟨rfl, rfl⟩
  rw [HJ1.out]
  go_wp2_with fail
  refine (join_any _ _ _ _ (by omega)).mono ?_
  rintro _ _ ⟨rfl, rfl⟩
  rw [HJ2.out]
  go_wp2_with fail
  refine (join_any _ _ _ _ (by omega)).mono ?_
  rintro _ _ ⟨rfl, rfl⟩
  rw [HJ3.out]
  go_wp2_with fail
  refine (join_any _ _ _ _ (by omega)).mono ?_
  rintro _ _ ⟨rfl, rfl⟩
  rw [HR.out]
  go_wp2_with fail
  refine (of_len _ _ _ _ _ (none_at _) rfl (by simp)).mono ?_
  rintro _ w11 ⟨rfl, hb11⟩
  have HE11 : Hid (Below w.heap.size w w11) := HE10.out.trans (hb11.mono HE10.out.size)
  clear hb11
  rw [more_nil]
  go_wp2_with fail
  refine (more_len _ _ _ _ _ _ (none_at _) rfl (by simp)).mono ?_
  rintro _ w12 ⟨rfl, hb12⟩
  have HE12 : Hid (Below w.heap.size w w12) := HE11.out.trans (hb12.mono HE11.out.size)
  clear hb12
  rw [more_nil]
  go_wp2
  go_ret
  exact ⟨rfl, HE12.out⟩
end Go.Proofs.Ytcafgeebnddkdaa
