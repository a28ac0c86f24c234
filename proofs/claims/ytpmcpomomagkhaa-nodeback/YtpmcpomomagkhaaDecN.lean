/- Decode. -/
import Derived.Test.YtpmcpomomagkhaaReadW
namespace Go.Proofs.Ytpmcpomomagkhaa
open Go.RowKit

def zeroN : Value := .agg #[.slice none 0 0, .slice none 0 0, .slice none 0 0]
/-- What Decode gives. -/
structure DecNPost (w : World) (z : Int) (b : Key) (r : Ending) (w' : World) : Prop where
  is : ∃ (v' : Value) (code : Nat), r = .returned (.tuple #[v', .int .i64 (code : Nat)]) ∧ Below w.heap.size w w' ∧ ((code = 0 ∧ ∃ d F, NewNode w.heap.size w' v' d F ∧ checkN z ⟨d, msOf F⟩ = 0 ∧ encN ⟨d, msOf F⟩ = b) ∨ (code ≠ 0 ∧ v' = zeroN ∧ (Sized z → code = 84 ∧ NoNode z b)))
theorem NewNode.at {base : Nat} {w : World} {v : Value} {d : Kd} {F : List Mt} {z : Int} (h : NewNode base w v d F) (hc : checkK z d = 0) (hF : F.length ≤ 4096) : ∃ K, NodeAt w.heap.size w v d.ps K F ∧ Br.kd d.ps K = d := by
  obtain ⟨vp, vk, vm, e, h1, h2⟩ := h.is
  obtain ⟨s1, s2, _, _⟩ := check_small hc
  have hp := (pages_iff.1 (checkK_ok hc).2.2.2.1).1
  obtain ⟨L, h3, h4⟩ := h1.at (by omega) (by omega) (fun p hpp => by have := hp p hpp; omega)
  obtain ⟨vp', vk', e', g1, g2⟩ := h3.is
  cases e'
  exact ⟨L, ⟨vp, vk, vm, e, g1, g2, h2.at (by omega)⟩, by unfold Br.kd; rw [h4]⟩
theorem nd_eq {d : Kd} {K : List Br.Kc} {F : List Mt} (h : Br.kd d.ps K = d) : nd d.ps K F = ⟨d, msOf F⟩ := by unfold nd; rw [h]
theorem node_room {z : Int} {n : Nd} (h : checkN z n = 0) : (encN n).length ≤ roomN z := by rw [encN_length h]; exact (checkN_ok h).2.2.2

set_option maxHeartbeats 3200000 in
set_option maxRecDepth 100000 in
theorem decodeN_any {w : World} {v : Value} {z : Int} {b : Key} (hv : KeyIn w.heap.size w v b) :
    Calls Try.prog 11 #[.int .i64 z, v] w fun r w' => DecNPost w z b r w' := by
  obtain ⟨a, c, rfl⟩ := hv.form
  have hsh := hv.short
  obtain ⟨W, hW⟩ : ∃ W, W = w.alloc (.cells #[.slice none 0 0, .slice none 0 0, .slice none 0 0] 31) := ⟨_, rfl⟩
  have HBW : Hid (Below w.heap.size w W) := by rw [hW]; exact below_new _ _
  have HX : Hid (NBox W w.heap.size (.slice none 0 0) (.slice none 0 0) (.slice none 0 0)) := by rw [hW]; exact NBox.new _ _ _ _
  have HV : Hid (KeyIn W.heap.size W (.slice a b.length c) b) := (hv.below HBW.out).mono HBW.out.size
  have HRO : Hid (∀ W', Calls Try.prog 20 #[.int .i64 z] W' fun r w' => r = .returned (.int .i64 (roomN z : Nat)) ∧ w' = W') := fun W' => roomOf_any W' z
  obtain ⟨x0, x1, x2⟩ := HX.out.cells
  have o0 := HX.out.open 0
  have o1 := HX.out.open 1
  have o2 := HX.out.open 2
  have hkp := putN_keep (B := w.heap.size) (.slice none 0 0) (.slice none 0 0) (.slice none 0 0) HX.out (Nat.le_refl _)
  have HZ : Hid (NBox (putN W w.heap.size (.slice none 0 0) (.slice none 0 0) (.slice none 0 0)) w.heap.size (.slice none 0 0) (.slice none 0 0) (.slice none 0 0) ∧ Below w.heap.size w (putN W w.heap.size (.slice none 0 0) (.slice none 0 0) (.slice none 0 0))) := ⟨putN_box _ _ _ HX.out, HBW.out.trans hkp.low⟩
  clear hv hkp
  by_cases hz : Sized z
  · have hr1 : 480 ≤ roomN z ∧ roomN z ≤ 4064 := by unfold roomN; rw [if_pos hz]; have := sized_le hz; omega
    have HSZ : Hid (Sized z) := hz
    have HLG : Hid (roomN z < b.length → NoNode z b) := fun h n hn he => by have := node_room hn; rw [he] at this; omega
    obtain ⟨Q, hQ⟩ : ∃ Q, Q = roomN z := ⟨_, rfl⟩
    rw [← hQ] at HRO hr1 HLG
    have hqz : ((Q : Int) == 0) = false := by rw [beq_eq_false_iff_ne]; omega
    clear hz hQ
    by_cases hlg : Q < b.length
    · have hlz : (Q : Int) < (b.length : Int) := by omega
      have HNO : Hid (NoNode z b) := HLG.out hlg
      clear hlg
      go_enter Try.func11, Try.ntmps11
      go_wp2_with fail
      rw [← hW]
      clear hW
      refine (HRO.out _).mono ?_
      rintro r w1 ⟨rfl, hw1⟩
      obtain rfl := hw1.symm
      go_wp2_with fail
      refine (HRO.out _).mono ?_
      rintro r w2 ⟨rfl, hw2⟩
      obtain rfl := hw2.symm
      go_wp2
      exact bodyPost_ret (ret_node rfl rfl rfl HZ.out.1) rfl ⟨_, 84, rfl, HZ.out.2, .inr ⟨by decide, rfl, fun _ => ⟨rfl, HNO.out⟩⟩⟩
    · have hlz : ¬ (Q : Int) < (b.length : Int) := by omega
      have HRE := read_any (z := z) HV.out HSZ.out (by omega)
      have hbl : b.length ≤ 4064 := by omega
      clear hlg
      go_enter Try.func11, Try.ntmps11
      go_wp2_with fail
      rw [← hW]
      clear hW
      refine (HRO.out _).mono ?_
      rintro r w1 ⟨rfl, hw1⟩
      obtain rfl := hw1.symm
      go_wp2_with fail
      refine (HRO.out _).mono ?_
      rintro r w2 ⟨rfl, hw2⟩
      obtain rfl := hw2.symm
      go_wp2_with fail
      refine HRE.mono ?_
      rintro r w3 ⟨a1, n1, c1, a2, n2, c2, a3, n3, c3, ok, rfl, hb3, hno, hyes⟩
      obtain ⟨W4, hW4⟩ : ∃ W4, W4 = w3.alloc (.cells #[.slice a1 n1 c1, .slice a2 n2 c2, .slice a3 n3 c3] 31) := ⟨_, rfl⟩
      have HB34 : Hid (Below w3.heap.size w3 W4) := by rw [hW4]; exact below_new _ _
      have HBW4 : Hid (Below W.heap.size W W4) := hb3.trans (HB34.out.mono hb3.size)
      have HB4 : Hid (Below w.heap.size w W4) := HBW.out.trans (HBW4.out.mono HBW.out.size)
      have HX4 : Hid (NBox W4 w.heap.size (.slice none 0 0) (.slice none 0 0) (.slice none 0 0)) := HX.out.here HBW4.out
      have HX5 : Hid (NBox W4 w3.heap.size (.slice a1 n1 c1) (.slice a2 n2 c2) (.slice a3 n3 c3)) := by rw [hW4]; exact NBox.new _ _ _ _
      have hfar : w.heap.size < w3.heap.size := Nat.lt_of_lt_of_le HX.out.lt hb3.size
      by_cases hok : ok = true
      · subst hok
        obtain ⟨d, F, hnn, hir⟩ := hyes rfl
        have hnn4 := hnn.here HB34.out
        have hfew := hir.few
        obtain ⟨K, hna, hkd⟩ := hnn4.at hir.kids (by omega)
        have HIR : Hid (IsRead z b d F) := hir
        have HNN : Hid (NewNode w.heap.size W4 (.agg #[.slice a1 n1 c1, .slice a2 n2 c2, .slice a3 n3 c3]) d F) := by
          obtain ⟨vp, vk, vm, e, g1, g2⟩ := hnn4.is
          exact ⟨vp, vk, vm, e, g1.mono HBW.out.size, own_mono g2.own HBW.out.size, fun x hx => (g2.ms x hx).mono HBW.out.size⟩
        have HCK := checkN_any (z := z) hna (by have := hir.size; omega)
        rw [nd_eq hkd] at HCK
        obtain ⟨y0, y1, y2⟩ := HX5.out.cells
        clear hno hyes hnn hir hnn4 hna hkd hb3 x0 x1 x2 o0 o1 o2
        go_wp2_with fail
        rw [← hW4]
        clear hW4
        refine HCK.mono ?_
        rintro r w5 ⟨rfl, hb5⟩
        have HB5 : Hid (Below w.heap.size w w5) := HB4.out.trans (hb5.mono HB4.out.size)
        have HX05 : Hid (NBox w5 w.heap.size (.slice none 0 0) (.slice none 0 0) (.slice none 0 0)) := HX4.out.here hb5
        have HX55 : Hid (NBox w5 w3.heap.size (.slice a1 n1 c1) (.slice a2 n2 c2) (.slice a3 n3 c3)) := HX5.out.here hb5
        have HNN5 : Hid (NewNode w.heap.size w5 (.agg #[.slice a1 n1 c1, .slice a2 n2 c2, .slice a3 n3 c3]) d F) := HNN.out.here hb5
        obtain ⟨z0, z1, z2⟩ := HX05.out.cells
        obtain ⟨s0, s1, s2⟩ := HX55.out.cells
        have o0 := HX05.out.open 0
        have o1 := HX05.out.open 1
        have o2 := HX05.out.open 2
        clear hb5 HCK y0 y1 y2
        by_cases hc : checkN z ⟨d, msOf F⟩ = 0
        · rw [hc]
          have HCH : Hid (checkN z ⟨d, msOf F⟩ = 0) := hc
          have hkp := putN_keep (B := w.heap.size) (.slice a1 n1 c1) (.slice a2 n2 c2) (.slice a3 n3 c3) HX05.out (Nat.le_refl _)
          have HEND : Hid (NBox (putN w5 w.heap.size (.slice a1 n1 c1) (.slice a2 n2 c2) (.slice a3 n3 c3)) w.heap.size (.slice a1 n1 c1) (.slice a2 n2 c2) (.slice a3 n3 c3) ∧ Below w.heap.size w (putN w5 w.heap.size (.slice a1 n1 c1) (.slice a2 n2 c2) (.slice a3 n3 c3)) ∧ NewNode w.heap.size (putN w5 w.heap.size (.slice a1 n1 c1) (.slice a2 n2 c2) (.slice a3 n3 c3)) (.agg #[.slice a1 n1 c1, .slice a2 n2 c2, .slice a3 n3 c3]) d F) :=
            ⟨putN_box _ _ _ HX05.out, HB5.out.trans hkp.low, HNN5.out.keep hkp (by decide) (by decide) (by decide) (by decide)⟩
          clear hc hkp
          go_wp2
          exact bodyPost_ret (ret_node rfl rfl rfl HEND.out.1) rfl ⟨_, 0, rfl, HEND.out.2.1, .inl ⟨rfl, d, F, HEND.out.2.2, HCH.out, HIR.out.is⟩⟩
        · have hcz : (((checkN z ⟨d, msOf F⟩ : Nat) : Int) != 0) = true := by simp; omega
          have HNO : Hid (NoNode z b) := fun n hn he => by
            have := HIR.out.one n hn he
            rw [this] at hn
            exact hc hn
          have hkp := putN_keep (B := w.heap.size) (.slice none 0 0) (.slice none 0 0) (.slice none 0 0) HX05.out (Nat.le_refl _)
          have HEND : Hid (NBox (putN w5 w.heap.size (.slice none 0 0) (.slice none 0 0) (.slice none 0 0)) w.heap.size (.slice none 0 0) (.slice none 0 0) (.slice none 0 0) ∧ Below w.heap.size w (putN w5 w.heap.size (.slice none 0 0) (.slice none 0 0) (.slice none 0 0))) := ⟨putN_box _ _ _ HX05.out, HB5.out.trans hkp.low⟩
          clear hc hkp
          go_wp2
          exact bodyPost_ret (ret_node rfl rfl rfl HEND.out.1) rfl ⟨_, 84, rfl, HEND.out.2, .inr ⟨by decide, rfl, fun _ => ⟨rfl, HNO.out⟩⟩⟩
      · have hok' : ok = false := by simpa using hok
        subst hok'
        have HNO : Hid (NoNode z b) := hno rfl
        obtain ⟨z0, z1, z2⟩ := HX4.out.cells
        obtain ⟨s0, s1, s2⟩ := HX5.out.cells
        have p0 := HX4.out.open 0
        have p1 := HX4.out.open 1
        have p2 := HX4.out.open 2
        have hkp := putN_keep (B := w.heap.size) (.slice none 0 0) (.slice none 0 0) (.slice none 0 0) HX4.out (Nat.le_refl _)
        have HEND : Hid (NBox (putN W4 w.heap.size (.slice none 0 0) (.slice none 0 0) (.slice none 0 0)) w.heap.size (.slice none 0 0) (.slice none 0 0) (.slice none 0 0) ∧ Below w.heap.size w (putN W4 w.heap.size (.slice none 0 0) (.slice none 0 0) (.slice none 0 0))) := ⟨putN_box _ _ _ HX4.out, HB4.out.trans hkp.low⟩
        clear hno hyes hb3 x0 x1 x2 o0 o1 o2 hkp hok
        go_upto_region 6 with fail
        rw [← hW4]
        clear hW4
        go_wp2
        exact bodyPost_ret (ret_node rfl rfl rfl HEND.out.1) rfl ⟨_, 84, rfl, HEND.out.2, .inr ⟨by decide, rfl, fun _ => ⟨rfl, HNO.out⟩⟩⟩
  · have hr1 : roomN z = 0 := by unfold roomN; rw [if_neg hz]
    have HNS : Hid (¬ Sized z) := hz
    rw [hr1] at HRO
    clear hz hr1
    go_enter Try.func11, Try.ntmps11
    go_wp2_with fail
    rw [← hW]
    clear hW
    refine (HRO.out _).mono ?_
    rintro r w1 ⟨rfl, hw1⟩
    obtain rfl := hw1.symm
    go_wp2
    exact bodyPost_ret (ret_node rfl rfl rfl HZ.out.1) rfl ⟨_, 1, rfl, HZ.out.2, .inr ⟨by decide, rfl, fun h => absurd h HNS.out⟩⟩
end Go.Proofs.Ytpmcpomomagkhaa
