/- The chapter's examples: the law's own function 'alive' answers true. -/
import Derived.Test.YtlokplnapaghhaaDoorStr
namespace Go.Proofs.YtlokplnapaghhaaDoor
open Go.RowKit

def A0 : Sp := (Sp.empty 16).use 0 2
def A1 : Sp := A0.allocS
def A2 : Sp := A1.takeS 9
theorem a0N : A0.allocN = 2 := by decide +kernel
theorem a0E : A0.allocE = 0 := by decide +kernel
theorem a1E : A1.takeE 9 = 0 := by decide +kernel
theorem a2E : A2.takeE 9 = 94 := by decide +kernel
theorem a3E : (A2.takeS 9).freeE 10 = 92 := by decide +kernel
theorem a3S : (A2.takeS 9).freeS 10 = A2 := by
  have h1 : A2.has 9 = true := by decide +kernel
  have h2 : A2.n = 16 := by decide +kernel
  have h3 : A2.has 10 = false := by decide +kernel
  have e : A2.takeS 9 = A2 := by simp [Sp.takeS, inB, h1]
  rw [e]
  simp [Sp.freeS, inB, h3]
theorem a2U : A2.used = 4 := by decide +kernel
theorem a2L : A2.n - A2.used = 12 := by decide +kernel
theorem a2H : A2.hasI 9 = true := by decide +kernel
theorem a2G : A2.hasI 16 = false := by decide +kernel
theorem a2C : A2.enc = [0, 0, 0, 2, 0, 0, 0, 0, 0, 0, 0, 3, 0, 0, 0, 9, 0, 0, 0, 1] := by decide +kernel

theorem a2T : ((strB [0, 0, 0, 2, 0, 0, 0, 0, 0, 0, 0, 3, 0, 0, 0, 9, 0, 0, 0, 1]).toList == [0, 0, 0, 2, 0, 0, 0, 0, 0, 0, 0, 3, 0, 0, 0, 9, 0, 0, 0, 1]) = true := by
  rw [ByteArray.toList_eq]; rfl
set_option maxHeartbeats 1000000 in
theorem alive_any (w : World) (ht : Tab w) :
    Calls Tryd.prog 8 #[] w fun e w' => e = .returned (.bool true) ∧ Below w.heap.size w w' := by
  have H1 := new_ok w 16 2 (by decide) (by decide) (by decide)
  have h2 : newOk 15 0 = false := by decide
  have hA0 : (Sp.empty 16).use 0 2 = A0 := rfl
  rw [hA0] at H1
  have n0 : ((16 : Nat) : Int) = 16 := rfl
  have n1 : ((2 : Nat) : Int) = 2 := rfl
  rw [n0, n1] at H1
  have HT : Hid (Tab w) := ht
  have hfin := a2T
  clear ht hA0 n0 n1
  go_enter Tryd.func8, Tryd.ntmps8
  go_wp2_with (first
    | (go_at_call 9; refine (new_bad w1 15 0 h2).mono ?_; rintro e w' ⟨rfl, hw'⟩; obtain rfl := hw'.symm)
    | (go_at_call 9; refine H1.mono ?_; rintro e w1 ⟨rfl, hs1, hb1⟩
       have HS1 : Hid (SpaceAt w1 w.heap.size A0) := hs1
       have HB1 : Hid (Below w.heap.size w w1) := hb1
       clear hs1 hb1 H1)
    | (go_at_call 22; refine (alloc_any w1 w.heap.size A0 HS1.out (HT.out.below HB1.out)).mono ?_; rw [a0N, a0E]; rintro e w2 ⟨rfl, hs2, hk2⟩
       have HS2 : Hid (SpaceAt w2 w.heap.size A1) := hs2
       have HB2 : Hid (Below w.heap.size w w2) := Kept.below HB1.out hk2 HB1.out.size (fun i hi => by omega)
       clear hs2 hk2)
    | (go_at_call 25; refine (take_any w3 w.heap.size A2 HS3.out 9).mono ?_; rw [a2E]; rintro e w4 ⟨rfl, hs4, hk4⟩
       have HS4 : Hid (SpaceAt w4 w.heap.size (A2.takeS 9)) := hs4
       have HB4 : Hid (Below w.heap.size w w4) := Kept.below HB3.out hk4 HB3.out.size (fun i hi => by omega)
       clear hs4 hk4)
    | (go_at_call 25; refine (take_any w2 w.heap.size A1 HS2.out 9).mono ?_; rw [a1E]; rintro e w3 ⟨rfl, hs3, hk3⟩
       have HS3 : Hid (SpaceAt w3 w.heap.size A2) := hs3
       have HB3 : Hid (Below w.heap.size w w3) := Kept.below HB2.out hk3 HB2.out.size (fun i hi => by omega)
       clear hs3 hk3)
    | (go_at_call 24; refine (free_any w4 w.heap.size (A2.takeS 9) HS4.out 10).mono ?_; rw [a3E, a3S]; rintro e w5 ⟨rfl, hs5, hk5⟩
       have HS5 : Hid (SpaceAt w5 w.heap.size A2) := hs5
       have HB5 : Hid (Below w.heap.size w w5) := Kept.below HB4.out hk5 HB4.out.size (fun i hi => by omega)
       clear hs5 hk5)
    | (go_at_call 16; refine (used_any w5 w.heap.size A2 HS5.out).mono ?_; rw [a2U]; rintro e w6 ⟨rfl, q6, hw6⟩
       have HB6 : Hid (Below w5.heap.size w5 w6) := by rw [hw6]; exact ⟨rfl, rfl, rfl, Nat.le_refl _, fun _ _ => rfl⟩
       have HS6 : Hid (SpaceAt w6 w.heap.size A2) := HS5.out.below HB6.out
       clear hw6)
    | (go_at_call 18; refine (left_any w6 w.heap.size A2 HS6.out).mono ?_; rw [a2L]; rintro e w7 ⟨rfl, q7, hw7⟩
       have HB7 : Hid (Below w6.heap.size w6 w7) := by rw [hw7]; exact ⟨rfl, rfl, rfl, Nat.le_refl _, fun _ _ => rfl⟩
       have HS7 : Hid (SpaceAt w7 w.heap.size A2) := HS6.out.below HB7.out
       have HB07 : Hid (Below w.heap.size w w7) := (HB5.out.trans (HB6.out.mono HB5.out.size)).trans (HB7.out.mono (Nat.le_trans HB5.out.size HB6.out.size))
       clear hw7)
    | (have _ := K9; go_at_call 23; refine (has_any w7 w.heap.size A2 HS7.out 16).mono ?_; rw [a2G]; rintro e w' ⟨rfl, hw'⟩; obtain rfl := hw'.symm)
    | (go_at_call 23; refine (has_any w7 w.heap.size A2 HS7.out 9).mono ?_; rw [a2H]; rintro e w' ⟨rfl, hw'⟩; obtain rfl := hw'.symm; have K9 : Hid True := trivial)
    | (go_at_call 26; refine (encode_any w7 w.heap.size A2 HS7.out (HT.out.below HB07.out)).mono ?_; rw [a2C]; rintro e w8 ⟨v8, rfl, hv8, hb8⟩
       have hcv := conv_new hv8
       have HB8 : Hid (Below w.heap.size w w8) := HB07.out.trans (hb8.mono HB07.out.size)
       clear hv8 hb8))
  go_ret
  exact ⟨rfl, HB8.out⟩
end Go.Proofs.YtlokplnapaghhaaDoor
