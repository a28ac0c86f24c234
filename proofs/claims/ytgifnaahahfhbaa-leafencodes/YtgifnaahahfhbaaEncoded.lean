/- encoded: Check, Bytes and Encode of entries, as the document says, twice. -/
import Derived.Test.YtgifnaahahfhbaaBkLaw
import Derived.Test.YtgifnaahahfhbaaRefEncW
namespace Go.Proofs.Ytgifnaahahfhbaa
open Go.RowKit

theorem encK_short (z : Int) (l : List En) (hw : weightE l ≤ 4294967296) : (if checkE z l = 0 then encE l else []).length ≤ 1099511627776 := by
  have h1 := bytesE_le hw
  split
  · rw [encE_length]; omega
  · simp

set_option maxHeartbeats 1600000 in
set_option maxRecDepth 100000 in
theorem encoded_any {hi b n : Nat} {z : Int} {w : World} {v u : Value} {L M : List It} (hB : Bk hi b n w) (hn : n ≤ 100) (hhi : hi ≤ w.heap.size) (hL : ∀ W, Ch b hi w W → ListAt W.heap.size W v L) (hM : ∀ W, Ch b hi w W → ListAt W.heap.size W u M)
    (he : M.map It.e = L.map It.e) (hw : weightE (L.map It.e) ≤ 4294967296) :
    Calls Try.prog 13 #[.pointer (some ⟨b, 0, none⟩), .int .i64 z, v, u] w fun e w' => e = .returned (.bool true) ∧ Bk hi b (n + 2) w' ∧ Ch b hi w w' := by
  have HL : Hid (∀ W, Ch b hi w W → ListAt W.heap.size W v L) := hL
  have HM : Hid (∀ W, Ch b hi w W → ListAt W.heap.size W u M) := hM
  have HE : Hid (M.map It.e = L.map It.e ∧ weightE (L.map It.e) ≤ 4294967296) := ⟨he, hw⟩
  have HB0 : Hid (Bk hi b n w) := hB
  obtain ⟨ks, hks⟩ : ∃ ks, ks = (if checkE z (L.map It.e) = 0 then encE (L.map It.e) else []) := ⟨_, rfl⟩
  have HKS : Hid (ks = (if checkE z (L.map It.e) = 0 then encE (L.map It.e) else [])) := hks
  have hkl : ks.length ≤ 1099511627776 := by rw [hks]; exact encK_short z _ hw
  obtain ⟨cz, hcz⟩ : ∃ cz, cz = checkE z (L.map It.e) := ⟨_, rfl⟩
  have HCZ : Hid (cz = checkE z (L.map It.e)) := hcz
  obtain ⟨bz, hbz⟩ : ∃ bz, bz = bytesE (L.map It.e) := ⟨_, rfl⟩
  have HBZ : Hid (bz = bytesE (L.map It.e)) := hbz
  clear hL hM he hw hB hks hcz hbz
  go_enter Try.func13, Try.ntmps13
  go_wp2_with fail
  go_loopw [9] (fun i wx => ∃ t : Nat, t ≤ 2 ∧ i = .int .i64 t ∧ Bk hi b (n + t) wx ∧ Ch b hi w wx) (fun i _ => 2 - (intOf i).toNat)
  case atStart => exact ⟨0, by omega, rfl, HB0.out, Ch.refl _ _ _⟩
  case round =>
    obtain ⟨t, ht, rfl, hbk, hch⟩ := hrel
    have HBK : Hid (Bk hi b (n + t) wr) := hbk
    have HCH : Hid (Ch b hi w wr) := hch
    have hhr : hi ≤ wr.heap.size := Nat.le_trans hhi hch.ty.size
    clear hbk hch
    by_cases hlt : t < 2
    · have hz : (t : Int) < 2 := by omega
      have hbw := HBK.out.lt
      have HCK := check_any (z := z) (HL.out _ HCH.out) HE.out.2
      rw [← HCZ.out] at HCK
      go_wp2_with fail
      refine HCK.mono ?_
      rintro e w1 ⟨rfl, hb1⟩
      clear HCK
      have HB1 : Hid (Below wr.heap.size wr w1) := hb1
      have HBY := bytes_any (HL.out w1 (HCH.out.trans (Ch.of hb1 (by omega)))) HE.out.2
      rw [← HBZ.out] at HBY
      clear hb1
      go_wp2_with fail
      refine HBY.mono ?_
      rintro e w2' ⟨rfl, q, rfl⟩
      clear HBY
      obtain ⟨w2, hw2⟩ : ∃ w2, w2 = w1.drewN q := ⟨_, rfl⟩
      have HB2 : Hid (Below wr.heap.size wr w2) := by rw [hw2]; exact below_draws HB1.out _
      rw [← hw2]
      clear hw2 HB1
      have HEN := encode_any (z := z) (HL.out w2 (HCH.out.trans (Ch.of HB2.out (by omega)))) HE.out.2
      rw [← HKS.out, ← HCZ.out] at HEN
      go_wp2_with fail
      refine HEN.mono ?_
      rintro e w3 ⟨v3, rfl, hv3, hb3⟩
      clear HEN
      have HV3 : Hid (NewKey w2.heap.size w3 v3 ks) := hv3
      have HB23 : Hid (Below w2.heap.size w2 w3) := hb3
      have HB3 : Hid (Below wr.heap.size wr w3) := HB2.out.trans (hb3.mono HB2.out.size)
      clear hv3 hb3
      have HRE := refEncode_any (z := z) (HM.out w3 (HCH.out.trans (Ch.of HB3.out (by omega)))) (by rw [HE.out.1]; exact HE.out.2)
      rw [HE.out.1, ← HKS.out, ← HCZ.out] at HRE
      go_wp2_with fail
      refine HRE.mono ?_
      rintro e w4 ⟨v4, rfl, hv4, hb4⟩
      clear HRE
      have HV4 : Hid (NewKey w3.heap.size w4 v4 ks) := hv4
      have HB34 : Hid (Below w3.heap.size w3 w4) := hb4
      have HB4 : Hid (Below wr.heap.size wr w4) := HB3.out.trans (hb4.mono HB3.out.size)
      clear hv4 hb4
      have HRC := refCheck_any (z := z) (HM.out w4 (HCH.out.trans (Ch.of HB4.out (by omega)))) (by rw [HE.out.1]; exact HE.out.2)
      rw [HE.out.1, ← HCZ.out] at HRC
      go_wp2_with fail
      refine HRC.mono ?_
      rintro e w5' ⟨rfl, q5, rfl⟩
      clear HRC
      obtain ⟨w5, hw5⟩ : ∃ w5, w5 = w4.drewN q5 := ⟨_, rfl⟩
      have HB45 : Hid (Below w4.heap.size w4 w5) := by rw [hw5]; exact below_draws (Below.refl _ _) _
      rw [← hw5]
      clear hw5
      have HB5 : Hid (Below wr.heap.size wr w5) := HB4.out.trans (HB45.out.mono HB4.out.size)
      have HRB := refBytes_any (HM.out w5 (HCH.out.trans (Ch.of HB5.out (by omega)))) (by rw [HE.out.1]; exact HE.out.2)
      rw [HE.out.1, ← HBZ.out] at HRB
      go_wp2_with fail
      refine HRB.mono ?_
      rintro e w6' ⟨rfl, q6, rfl⟩
      clear HRB
      obtain ⟨w6, hw6⟩ : ∃ w6, w6 = w5.drewN q6 := ⟨_, rfl⟩
      have HB46 : Hid (Below w4.heap.size w4 w6) := by rw [hw6]; exact below_draws HB45.out _
      rw [← hw6]
      clear hw6
      have HB36 : Hid (Below w3.heap.size w3 w6) := HB34.out.trans (HB46.out.mono HB34.out.size)
      have HB26 : Hid (Below w2.heap.size w2 w6) := HB23.out.trans (HB36.out.mono HB23.out.size)
      have c1 : Sem.run Try.prog (convert 39 9 v3) w6 = .ok (.string (strB ks)) w6 := conv_key (HV3.out.here HB36.out).at
      have c2 : Sem.run Try.prog (convert 39 9 v4) w6 = .ok (.string (strB ks)) w6 := conv_key (HV4.out.here HB46.out).at
      generalize strB ks = S at c1 c2
      go_wp2_with fail
      clear c1 c2
      refine (bk_keep (HBK.out.here HB2.out) HB26.out (HV3.out.here HB36.out) hkl (by omega) (Nat.le_trans hhr HB2.out.size)).mono ?_
      rintro e w7 ⟨rfl, hk7, hc7⟩
      have HK7 : Hid (Bk hi b (n + (t + 1)) w7) := hk7
      have HC7 : Hid (Ch b hi w w7) := HCH.out.trans ((Ch.of (HB2.out.trans (HB26.out.mono HB2.out.size)) (by omega)).trans hc7)
      clear hk7 hc7
      go_wp2
      exact ⟨⟨t + 1, by omega, by go_num, HK7.out, HC7.out⟩, by simp [intOf]; omega⟩
    · have hz : ¬ (t : Int) < 2 := by omega
      obtain rfl : t = 2 := by omega
      go_wp2_with fail
      go_ret
      exact ⟨rfl, HBK.out, HCH.out⟩
end Go.Proofs.Ytgifnaahahfhbaa
