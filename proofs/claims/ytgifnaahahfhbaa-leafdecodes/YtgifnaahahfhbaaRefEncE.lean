/- The document's two, Check, Encode. -/
import Derived.Test.YtgifnaahahfhbaaRefSplit2
namespace Go.Proofs.Ytgifnaahahfhbaa
open Go.RowKit

set_option maxHeartbeats 800000 in
set_option maxRecDepth 100000 in
theorem refTwo_any {base : Nat} {w : World} {v : Value} {ks : Key} {n : Nat} (h : NewKey base w v ks) (hs : ks.length + 2 ≤ 140737488355328) (hn : n < 65536) (hb : base ≤ w.heap.size) :
    Calls Try.prog 61 #[v, .int .i64 n] w fun r w' => ∃ v', r = .returned v' ∧ NewKey base w' v' (ks ++ two n) ∧ Keeps base w w' := by
  have HV : Hid (NewKey base w v ks) := h
  have HL : Hid (KeyAt (w.alloc (.cells #[.int .u8 ((n : Int) / 256), .int .u8 ((n : Int) % 256)] 5)) (.slice (some ⟨w.heap.size, 0, none⟩) 2 2) (two n)) :=
    lit2 (by rw [UInt8.toNat_ofNat']; omega) (by rw [UInt8.toNat_ofNat']; omega)
  have HB : Hid (Below w.heap.size w (w.alloc (.cells #[.int .u8 ((n : Int) / 256), .int .u8 ((n : Int) % 256)] 5))) := below_new _ _
  have hv1 : v.oneCell' = true := key_one' h
  clear h
  go_enter Try.func61, Try.ntmps61
  go_wp2_with (at_builtin; refine wpList_append_key rfl _ _ rfl base _ _ ks (two n) rfl (HV.out.here HB.out) rfl HL.out hs (by simp; omega) ?_
               intro v' w' hk hkp
               have HK : Hid _ := hk
               have HKP : Hid _ := hkp
               clear hk hkp)
  go_ret
  exact ⟨_, rfl, HK.out, (Keeps.of HB.out hb).trans HKP.out⟩

set_option maxHeartbeats 800000 in
set_option maxRecDepth 100000 in
theorem refCheck_any {w : World} {v : Value} {L : List It} {z : Int} (hL : ListAt w.heap.size w v L) (hw : weightE (L.map It.e) ≤ 68719476736) :
    Calls Try.prog 33 #[.int .i64 z, v] w fun r w' => r = .returned (.int .i64 (checkE z (L.map It.e) : Nat)) ∧ ∃ q, w' = w.drewN q := by
  have hsh := hL.short
  obtain ⟨a, c, rfl⟩ := hL.form
  have HL : Hid (ListAt w.heap.size w (.slice a L.length c) L) := hL
  clear hL
  by_cases hz : Sized z
  · have hzz := sized_le hz
    obtain ⟨s, rfl⟩ : ∃ s : Nat, z = (s : Int) := ⟨z.toNat, by rcases hz with rfl | rfl | rfl | rfl <;> rfl⟩
    have hs : s = 512 ∨ s = 1024 ∨ s = 2048 ∨ s = 4096 := by rcases hz with h | h | h | h <;> omega
    rw [Int.toNat_natCast] at hzz
    have HSZ : Hid (∀ w, Calls Try.prog 45 #[.int .i64 (s : Int)] w fun r w' => r = .returned (.bool true) ∧ ∃ q, w' = w.drewN q) := fun w => by
      have := refSized_any w (s : Int); rw [decide_eq_true hz] at this; exact this
    have HC : Hid (checkE (s : Int) (L.map It.e) = if faultE s (L.map It.e) ≠ 0 then faultE s (L.map It.e) else if s - 32 < bytesE (L.map It.e) then 54 else 0) := by
      have := checkE_sized (l := L.map It.e) hz
      rw [Int.toNat_natCast] at this
      exact this
    have HFT : Hid (∀ q, Calls Try.prog 58 #[.int .i64 (s : Int), .slice a L.length c] (w.drewN q) fun r w'' => r = .returned (.int .i64 (faultE s (L.map It.e) : Nat)) ∧ ∃ p, w'' = (w.drewN q).drewN p) := fun q => refEntries_any hs (HL.out.here (below_draws (Below.refl _ _) q))
    have HBY : Hid (∀ q, Calls Try.prog 34 #[.slice a L.length c] (w.drewN q) fun r w'' => r = .returned (.int .i64 (bytesE (L.map It.e) : Nat)) ∧ ∃ p, w'' = (w.drewN q).drewN p) := fun q => refBytes_any (HL.out.here (below_draws (Below.refl _ _) q)) hw
    have hbl := bytesE_leW hw
    generalize faultE s (L.map It.e) = F at *
    generalize bytesE (L.map It.e) = N at *
    clear hw hz hs
    by_cases hF : F = 0
    · subst hF
      by_cases hN : s - 32 < N
      · have hNz : (s : Int) - 32 < (N : Int) := by omega
        have HR : Hid (checkE (s : Int) (L.map It.e) = 54) := by rw [Hid, HC.out]; simp [hN]
        clear HC
        go_enter Try.func33, Try.ntmps33
        go_wp2_with (first
          | (go_at_call 45; refine (HSZ.out _).mono ?_; rintro r w' ⟨rfl, q, rfl⟩)
          | (go_at_call 58; refine (HFT.out _).mono ?_; rintro r w' ⟨rfl, q2, rfl⟩)
          | (go_at_call 34; refine (HBY.out _).mono ?_; rintro r w' ⟨rfl, q3, rfl⟩))
        go_ret
        exact ⟨by rw [HR.out]; rfl, _, rfl⟩
      · have hNz : ¬ (s : Int) - 32 < (N : Int) := by omega
        have HR : Hid (checkE (s : Int) (L.map It.e) = 0) := by rw [Hid, HC.out]; simp; omega
        clear HC
        go_enter Try.func33, Try.ntmps33
        go_wp2_with (first
          | (go_at_call 45; refine (HSZ.out _).mono ?_; rintro r w' ⟨rfl, q, rfl⟩)
          | (go_at_call 58; refine (HFT.out _).mono ?_; rintro r w' ⟨rfl, q2, rfl⟩)
          | (go_at_call 34; refine (HBY.out _).mono ?_; rintro r w' ⟨rfl, q3, rfl⟩))
        go_ret
        exact ⟨by rw [HR.out]; rfl, _, rfl⟩
    · have hFz : ((F : Int) != 0) = true := by simp; omega
      have HR : Hid (checkE (s : Int) (L.map It.e) = F) := by rw [Hid, HC.out, if_pos hF]
      clear HC
      go_enter Try.func33, Try.ntmps33
      go_wp2_with (first
        | (go_at_call 45; refine (HSZ.out _).mono ?_; rintro r w' ⟨rfl, q, rfl⟩)
        | (go_at_call 58; refine (HFT.out _).mono ?_; rintro r w' ⟨rfl, q2, rfl⟩))
      go_ret
      exact ⟨by rw [HR.out]; rfl, _, rfl⟩
  · have HSZ : Hid (∀ w, Calls Try.prog 45 #[.int .i64 z] w fun r w' => r = .returned (.bool false) ∧ ∃ q, w' = w.drewN q) := fun w => by
      have := refSized_any w z; rw [decide_eq_false hz] at this; exact this
    have HR : Hid (checkE z (L.map It.e) = 1) := by unfold checkE; rw [Hid, if_pos hz]
    clear hz hw
    go_enter Try.func33, Try.ntmps33
    go_wp2_with (go_at_call 45; refine (HSZ.out _).mono ?_; rintro r w' ⟨rfl, q, rfl⟩)
    go_ret
    exact ⟨by rw [HR.out]; rfl, _, rfl⟩
end Go.Proofs.Ytgifnaahahfhbaa
