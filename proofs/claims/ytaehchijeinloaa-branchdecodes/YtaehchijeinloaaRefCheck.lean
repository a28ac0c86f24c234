/- Check of banyanref06. -/
import Derived.Test.YtaehchijeinloaaRefSmall
namespace Go.Proofs.Ytaehchijeinloaa
open Go.RowKit

theorem check_1 {z : Int} {d : Kd} (h : ¬ Sized z) : checkK z d = 1 := by unfold checkK; rw [if_pos h]
theorem check_61 {z : Int} {d : Kd} (h : Sized z) (h1 : d.ps.length < 2 ∨ d.fit = false ∨ pagesOk d.ps = false) : checkK z d = 61 := by unfold checkK; rw [if_neg (by simpa using h), if_pos h1]
theorem check_62 {z : Int} {d : Kd} (h : Sized z) (h1 : ¬ (d.ps.length < 2 ∨ d.fit = false ∨ pagesOk d.ps = false)) (h2 : keysOk z.toNat d.ks = false) : checkK z d = 62 := by unfold checkK; rw [if_neg (by simpa using h), if_neg h1, if_pos h2]
theorem check_63 {z : Int} {d : Kd} (h : Sized z) (h1 : ¬ (d.ps.length < 2 ∨ d.fit = false ∨ pagesOk d.ps = false)) (h2 : keysOk z.toNat d.ks = true) (h3 : riseK d.ks = false) : checkK z d = 63 := by unfold checkK; rw [if_neg (by simpa using h), if_neg h1, if_neg (by simp [h2]), if_pos h3]
theorem check_64 {z : Int} {d : Kd} (h : Sized z) (h1 : ¬ (d.ps.length < 2 ∨ d.fit = false ∨ pagesOk d.ps = false)) (h2 : keysOk z.toNat d.ks = true) (h3 : riseK d.ks = true) : checkK z d = if z.toNat - 32 < bytesK d then 64 else 0 := by unfold checkK; rw [if_neg (by simpa using h), if_neg h1, if_neg (by simp [h2]), if_neg (by simp [h3])]
theorem strB_ge (a b : Key) : (!Op.bytesLess (strB a).toList (strB b).toList) = !decide (a < b) := by rw [strB_lt]
theorem rise_next {ks : List Key} {i : Nat} {x y : Key} (hi : 1 ≤ i) (hx : ks[i]? = some x) (hy : ks[i - 1]? = some y) (hlt : y < x) (h : (ks.take i).Pairwise (· < ·)) : (ks.take (i + 1)).Pairwise (· < ·) := by
  rw [List.take_add_one, hx]
  simp only [Option.toList_some]
  rw [List.pairwise_append]
  refine ⟨h, List.pairwise_singleton _ _, fun a ha b hb => ?_⟩
  simp at hb
  subst hb
  obtain ⟨j, hj⟩ := List.getElem?_of_mem ha
  have hj0 := hj
  rw [List.getElem?_take] at hj
  split at hj
  · rename_i hji
    rcases Nat.lt_or_ge j (i - 1) with h4 | h4
    · obtain ⟨q1, e1⟩ := List.getElem?_eq_some_iff.1 hj0
      have hy0 : (ks.take i)[i - 1]? = some y := by rw [List.getElem?_take, if_pos (by omega)]; exact hy
      obtain ⟨q2, e2⟩ := List.getElem?_eq_some_iff.1 hy0
      have := List.pairwise_iff_getElem.1 h j (i - 1) q1 q2 h4
      rw [e1, e2] at this
      grind
    · have h5 : j = i - 1 := by omega
      subst h5
      rw [hy] at hj
      cases hj
      exact hlt
  · cases hj
theorem not_rise {ks : List Key} {i : Nat} {x y : Key} (hi : 1 ≤ i) (hx : ks[i]? = some x) (hy : ks[i - 1]? = some y) (hlt : ¬ y < x) : ¬ ks.Pairwise (· < ·) := fun h => by
  obtain ⟨h2, e2⟩ := List.getElem?_eq_some_iff.1 hx
  obtain ⟨h3, e3⟩ := List.getElem?_eq_some_iff.1 hy
  have := List.pairwise_iff_getElem.1 h (i - 1) i h3 h2 (by omega)
  rw [e3, e2] at this
  exact hlt this

set_option maxHeartbeats 3200000 in
set_option maxRecDepth 100000 in
theorem refCheck_any {w : World} {v : Value} {ps : List Int} {L : List Kc} {z : Int} (h : KidsAt w.heap.size w v ps L) (hl : Light ps L) :
    Calls Try.prog 33 #[.int .i64 z, v] w fun r w' => r = .returned (.int .i64 (checkK z (kd ps L) : Nat)) ∧ Below w.heap.size w w' := by
  have HLI : Hid (Light ps L) := hl
  obtain ⟨vp, vk, rfl, h1, h2⟩ := h.is
  obtain ⟨a1, c1, rfl⟩ := h1.form
  obtain ⟨a2, c2, rfl⟩ := h2.form
  have hs1 := h1.short
  have hs2 := h2.short
  obtain ⟨W, hW⟩ : ∃ W, W = w.alloc (.cells #[.slice a1 ps.length c1, .slice a2 L.length c2] 26) := ⟨_, rfl⟩
  have HBW : Hid (Below w.heap.size w W) := by rw [hW]; exact below_new _ _
  have HP : Hid (IntsAt W.heap.size W (.slice a1 ps.length c1) ps) := h1.here HBW.out
  have HK : Hid (KeysAt W.heap.size W (.slice a2 L.length c2) L) := h2.here HBW.out
  have HX : Hid (KBox W w.heap.size (.slice a1 ps.length c1) (.slice a2 L.length c2)) := by rw [hW]; exact KBox.new _ _ _
  have HKD : Hid (KidsAt W.heap.size W (.agg #[.slice a1 ps.length c1, .slice a2 L.length c2]) ps L) := h.here HBW.out
  clear h h1 h2 hl
  obtain ⟨k0, k1⟩ := HX.out.cells
  have HS := refSized_any W z
  by_cases hsz : Sized z
  · rw [decide_eq_true hsz] at HS
    have HSZ : Hid (Sized z) := hsz
    have hzz := sized_le hsz
    clear hsz
    by_cases h2p : ps.length < 2
    · have h2z : (ps.length : Int) < 2 := by omega
      have HE : Hid (checkK z (kd ps L) = 61) := check_61 HSZ.out (.inl h2p)
      go_enter Try.func33, Try.ntmps33
      go_wp2_with fail
      rw [← hW]
      refine HS.mono ?_
      rintro e w1 ⟨rfl, rfl⟩
      clear hW
      go_wp2
      go_ret
      exact ⟨by rw [HE.out]; rfl, HBW.out⟩
    · have h2z : ¬ (ps.length : Int) < 2 := by omega
      cases hf : (kd ps L).fit with
      | false =>
        have HE : Hid (checkK z (kd ps L) = 61) := check_61 HSZ.out (.inr (.inl hf))
        have HF := refFit_any HKD.out
        rw [hf] at HF
        clear hf
        go_enter Try.func33, Try.ntmps33
        go_wp2_with fail
        rw [← hW]
        refine HS.mono ?_
        rintro e w1 ⟨rfl, rfl⟩
        clear hW
        go_wp2_with fail
        refine HF.mono ?_
        rintro e w2 ⟨rfl, hb⟩
        have HB2 : Hid (Below w.heap.size w w2) := HBW.out.trans (hb.mono HBW.out.size)
        clear hb HF k0 k1
        go_wp2
        go_ret
        exact ⟨by rw [HE.out]; rfl, HB2.out⟩
      | true =>
        have HFT : Hid ((kd ps L).fit = true) := hf
        have HF := refFit_any HKD.out
        rw [hf] at HF
        clear hf
        go_enter Try.func33, Try.ntmps33
        go_wp2_with fail
        rw [← hW]
        refine HS.mono ?_
        rintro e w1 ⟨rfl, rfl⟩
        clear hW
        go_wp2_with fail
        refine HF.mono ?_
        rintro e w2 ⟨rfl, hb⟩
        have HB2 : Hid (Below w1.heap.size w1 w2) := hb
        clear hb HF k0 k1
        obtain ⟨k0, k1⟩ := (HX.out.here HB2.out).cells
        have HA := refAlike_any (HP.out.here HB2.out)
        cases hnd : decide ps.Nodup with
        | false =>
          have HE : Hid (checkK z (kd ps L) = 61) := check_61 HSZ.out (.inr (.inr (by
            have h9 : ¬ ps.Nodup := of_decide_eq_false hnd
            rw [← Bool.not_eq_true, pages_iff]
            exact fun h => h9 h.2)))
          rw [hnd] at HA
          clear hnd
          go_wp2_with fail
          refine HA.mono ?_
          rintro e w3 ⟨rfl, hb⟩
          have HB3 : Hid (Below w.heap.size w w3) := HBW.out.trans ((HB2.out.trans (hb.mono HB2.out.size)).mono HBW.out.size)
          clear hb HA k0 k1
          go_wp2
          go_ret
          exact ⟨by rw [HE.out]; rfl, HB3.out⟩
        | true =>
          have HND : Hid (ps.Nodup) := (of_decide_eq_true hnd : ps.Nodup)
          rw [hnd] at HA
          clear hnd
          go_wp2_with fail
          refine HA.mono ?_
          rintro e w3 ⟨rfl, hb⟩
          have HB3 : Hid (Below w1.heap.size w1 w3) := HB2.out.trans (hb.mono HB2.out.size)
          have HX3 : Hid (KBox w3 w.heap.size (.slice a1 ps.length c1) (.slice a2 L.length c2)) := HX.out.here HB3.out
          have HP3 : Hid (IntsAt w3.heap.size w3 (.slice a1 ps.length c1) ps) := HP.out.here HB3.out
          have HK3 : Hid (KeysAt w3.heap.size w3 (.slice a2 L.length c2) L) := HK.out.here HB3.out
          have HLW : Hid (Below w.heap.size w w3) := HBW.out.trans (HB3.out.mono HBW.out.size)
          clear hb HA HB2 HX HP HK k0 k1
          obtain ⟨k0, k1⟩ := HX3.out.cells
          go_wp2_with fail
          clear k1
          go_loopw [5] (fun i wx => ∃ k : Nat, k ≤ ps.length ∧ i = .int .i64 k ∧ (∀ (j : Nat) p, j < k → ps[j]? = some p → 2 ≤ p ∧ p ≤ 65535) ∧ wx = w3) (fun i _ => ps.length - (intOf i).toNat)
          case atStart => exact ⟨0, by omega, rfl, fun j p hj => absurd hj (by omega), rfl⟩
          case round =>
            clear k0
            obtain ⟨k, hk, rfl, hall, rfl⟩ := hrel
            have HALL : Hid (∀ (j : Nat) p, j < k → ps[j]? = some p → 2 ≤ p ∧ p ≤ 65535) := hall
            clear hall
            obtain ⟨k0, k1⟩ := HX3.out.cells
            by_cases hlt : k < ps.length
            · have hz : (k : Int) < (ps.length : Int) := by omega
              obtain ⟨p, hp⟩ : ∃ p, ps[k]? = some p := ⟨_, List.getElem?_eq_getElem hlt⟩
              obtain ⟨g, off, _, e1, hc⟩ := HP3.out.cell k p hp
              cases e1
              have HPG : Hid (ps[k]? = some p) := hp
              have HBAD : Hid (¬ (2 ≤ p ∧ p ≤ 65535) → checkK z (kd ps L) = 61) := fun hb => check_61 HSZ.out (.inr (.inr (by
                rw [← Bool.not_eq_true, pages_iff]
                exact fun h => hb (h.1 p (List.mem_of_getElem? HPG.out)))))
              clear hp
              by_cases hp2 : p < 2
              · have HE : Hid (checkK z (kd ps L) = 61) := HBAD.out (by omega)
                go_wp2
                go_ret
                exact ⟨by rw [HE.out]; rfl, HLW.out⟩
              · by_cases hp3 : 65535 < p
                · have HE : Hid (checkK z (kd ps L) = 61) := HBAD.out (by omega)
                  go_wp2
                  go_ret
                  exact ⟨by rw [HE.out]; rfl, HLW.out⟩
                · have HN : Hid (∀ (j : Nat) x, j < k + 1 → ps[j]? = some x → 2 ≤ x ∧ x ≤ 65535) := fun j x hj hx => by
                    rcases Nat.lt_or_ge j k with h | h
                    · exact HALL.out j x h hx
                    · have : j = k := by omega
                      subst this
                      rw [HPG.out] at hx
                      cases hx
                      omega
                  go_wp2
                  exact ⟨⟨k + 1, by omega, by go_num, HN.out, by first | trivial | rfl⟩, by simp [intOf]; omega⟩
            · have hz : ¬ (k : Int) < (ps.length : Int) := by omega
              have HPO : Hid (pagesOk ps = true) := pages_iff.2 ⟨fun p hp => by
                obtain ⟨j, hj⟩ := List.getElem?_of_mem hp
                have := (List.getElem?_eq_some_iff.1 hj).1
                exact HALL.out j p (by omega) hj, HND.out⟩
              have HGO : Hid (¬ ((kd ps L).ps.length < 2 ∨ (kd ps L).fit = false ∨ pagesOk (kd ps L).ps = false)) := by
                rintro (h | h | h)
                · exact h2p h
                · rw [HFT.out] at h; cases h
                · have h9 : pagesOk ps = false := h
                  rw [HPO.out] at h9; cases h9
              obtain ⟨W3, rfl⟩ : ∃ W3, W3 = wr := ⟨_, rfl⟩
              clear HALL
              go_wp2_with fail
              clear k0
              go_loopw [6] (fun i wx => ∃ m : Nat, m ≤ L.length ∧ i = .int .i64 m ∧ (∀ (j : Nat) x, j < m → (keysOf L)[j]? = some x → 1 ≤ x.length ∧ x.length ≤ z.toNat / 16) ∧ wx = W3) (fun i _ => L.length - (intOf i).toNat)
              case atStart => exact ⟨0, by omega, rfl, fun j x hj => absurd hj (by omega), rfl⟩
              case round =>
                clear k1
                obtain ⟨m, hm, rfl, hall, rfl⟩ := hrel
                have HALL : Hid (∀ (j : Nat) x, j < m → (keysOf L)[j]? = some x → 1 ≤ x.length ∧ x.length ≤ z.toNat / 16) := hall
                clear hall
                obtain ⟨k0, k1⟩ := HX3.out.cells
                by_cases hlt2 : m < L.length
                · have hz2 : (m : Int) < (L.length : Int) := by omega
                  obtain ⟨e, he⟩ : ∃ e, L[m]? = some e := ⟨_, List.getElem?_eq_getElem hlt2⟩
                  obtain ⟨g, off, _, e1, hc⟩ := HK3.out.cell m e he
                  cases e1
                  have HKG : Hid ((keysOf L)[m]? = some e.k) := keysOf_get he
                  have hok := HK3.out.ok e (List.mem_of_getElem? he)
                  have hsh : e.k.length ≤ 140737488355328 := hok.short
                  obtain ⟨ae, ce, e2⟩ := hok.form
                  rw [e2] at hc
                  have HBAD : Hid (¬ (1 ≤ e.k.length ∧ e.k.length ≤ z.toNat / 16) → checkK z (kd ps L) = 62) := fun hb => check_62 HSZ.out HGO.out (by
                    rw [← Bool.not_eq_true, keys_iff]
                    exact fun h => hb (h e.k (List.mem_of_getElem? HKG.out)))
                  clear he hok e2
                  by_cases hp2 : e.k.length < 1
                  · have hp2z : (e.k.length : Int) < 1 := by omega
                    have HE : Hid (checkK z (kd ps L) = 62) := HBAD.out (by omega)
                    go_wp2
                    go_ret
                    exact ⟨by rw [HE.out]; rfl, HLW.out⟩
                  · have hp2z : ¬ (e.k.length : Int) < 1 := by omega
                    by_cases hp3 : z / 16 < (e.k.length : Int)
                    · have HE : Hid (checkK z (kd ps L) = 62) := HBAD.out (by omega)
                      go_wp2
                      go_ret
                      exact ⟨by rw [HE.out]; rfl, HLW.out⟩
                    · have HN : Hid (∀ (j : Nat) x, j < m + 1 → (keysOf L)[j]? = some x → 1 ≤ x.length ∧ x.length ≤ z.toNat / 16) := fun j x hj hx => by
                        rcases Nat.lt_or_ge j m with h | h
                        · exact HALL.out j x h hx
                        · have : j = m := by omega
                          subst this
                          rw [HKG.out] at hx
                          cases hx
                          omega
                      go_wp2
                      exact ⟨⟨m + 1, by omega, by go_num, HN.out, by first | trivial | rfl⟩, by simp [intOf]; omega⟩
                · have hz2 : ¬ (m : Int) < (L.length : Int) := by omega
                  have HKO : Hid (keysOk z.toNat (keysOf L) = true) := keys_iff.2 fun x hx => by
                    obtain ⟨j, hj⟩ := List.getElem?_of_mem hx
                    have := (List.getElem?_eq_some_iff.1 hj).1
                    rw [keysOf_length] at this
                    exact HALL.out j x (by omega) hj
                  obtain ⟨W4, rfl⟩ : ∃ W4, W4 = wr := ⟨_, rfl⟩
                  clear HALL
                  go_wp2_with fail
                  go_loopw [7] (fun i wx => ∃ n : Nat, 1 ≤ n ∧ i = .int .i64 n ∧ ((keysOf L).take n).Pairwise (· < ·) ∧ ∃ q, wx = W4.drewN q) (fun i _ => L.length - (intOf i).toNat)
                  case atStart => exact ⟨1, by omega, rfl, by match keysOf L with | [] => exact List.Pairwise.nil | x :: M => simp, 0, rfl⟩
                  case round =>
                    obtain ⟨n, hn, rfl, hri, q, rfl⟩ := hrel
                    have HRI : Hid (((keysOf L).take n).Pairwise (· < ·)) := hri
                    clear hri
                    by_cases hlt3 : n < L.length
                    · have hz3 : (n : Int) < (L.length : Int) := by omega
                      obtain ⟨j, hj⟩ : ∃ j, n = j + 1 := ⟨n - 1, by omega⟩
                      have hj1 : (n : Int) - 1 = (j : Int) := by omega
                      have hj2 : (j : Int) < (L.length : Int) := by omega
                      have hwj : IntKind.i64.wrap (j : Int) = (j : Int) := wrapk_of _ (by omega) (by omega)
                      obtain ⟨x, hx⟩ : ∃ x, L[n]? = some x := ⟨_, List.getElem?_eq_getElem hlt3⟩
                      obtain ⟨y, hy⟩ : ∃ y, L[j]? = some y := ⟨L[j]'(by omega), List.getElem?_eq_getElem _⟩
                      have HXG : Hid ((keysOf L)[n]? = some x.k) := keysOf_get hx
                      have HYG : Hid ((keysOf L)[n - 1]? = some y.k) := by rw [hj, Nat.add_sub_cancel]; exact keysOf_get hy
                      obtain ⟨g1, off1, _, e1, hc1⟩ := HK3.out.cell n x hx
                      cases e1
                      obtain ⟨g2, off2, _, e2, hc2⟩ := HK3.out.cell j y hy
                      cases e2
                      have hx1 := HK3.out.ok x (List.mem_of_getElem? hx)
                      have hy1 := HK3.out.ok y (List.mem_of_getElem? hy)
                      have v1 : ∀ q, Sem.run Try.prog (convert 27 9 x.v) (W4.drewN q) = .ok (.string (strB x.k)) (W4.drewN q) := fun q => conv_key ((hx1.at (Nat.le_refl _)).draws q)
                      have v2 : ∀ q, Sem.run Try.prog (convert 27 9 y.v) (W4.drewN q) = .ok (.string (strB y.k)) (W4.drewN q) := fun q => conv_key ((hy1.at (Nat.le_refl _)).draws q)
                      have s1 := strB_lt y.k x.k
                      clear hx hy hx1 hy1 hj
                      by_cases hxy : y.k < x.k
                      · have HNX : Hid (((keysOf L).take (n + 1)).Pairwise (· < ·)) := rise_next hn HXG.out HYG.out hxy HRI.out
                        rw [decide_eq_true hxy] at s1
                        clear hxy
                        generalize strB x.k = S1 at v1 s1
                        generalize strB y.k = S2 at v2 s1
                        go_wp2_with fail
                        go_quiet (fail)
                        go_wp2
                        exact ⟨⟨n + 1, by omega, by go_num, HNX.out, _, rfl⟩, by simp [intOf]; omega⟩
                      · have HE : Hid (checkK z (kd ps L) = 63) := check_63 HSZ.out HGO.out HKO.out (by
                          rw [← Bool.not_eq_true, rise_iff]
                          exact not_rise hn HXG.out HYG.out hxy)
                        rw [decide_eq_false hxy] at s1
                        clear hxy
                        generalize strB x.k = S1 at v1 s1
                        generalize strB y.k = S2 at v2 s1
                        go_wp2_with fail
                        go_quiet (fail)
                        go_wp2
                        go_ret
                        exact ⟨by rw [HE.out]; rfl, below_draws (below_draws HLW.out _) _⟩
                    · have hz3 : ¬ (n : Int) < (L.length : Int) := by omega
                      have HRK : Hid (riseK (keysOf L) = true) := rise_iff.2 (by
                        have := HRI.out
                        rw [List.take_of_length_le (by rw [keysOf_length]; omega)] at this
                        exact this)
                      have HE : Hid (checkK z (kd ps L) = if z.toNat - 32 < bytesK (kd ps L) then 64 else 0) := check_64 HSZ.out HGO.out HKO.out HRK.out
                      have HBY := refBytes_any (w := W4.drewN q) ((HKD.out.here HB3.out).here (below_draws (Below.refl _ _) q)) HLI.out
                      have hbl := light_bytes HLI.out
                      obtain ⟨N, hN⟩ : ∃ N, N = bytesK (kd ps L) := ⟨_, rfl⟩
                      rw [← hN] at HBY hbl HE
                      clear hN
                      go_wp2_with fail
                      refine HBY.mono ?_
                      rintro e w5 ⟨rfl, hb⟩
                      have HB5 : Hid (Below w.heap.size w w5) := (below_draws HLW.out q).trans (hb.mono (by have := HLW.out.size; exact this))
                      clear hb HBY
                      have HRO := refRoom_any w5 z
                      rw [if_pos HSZ.out] at HRO
                      go_wp2_with fail
                      refine HRO.mono ?_
                      rintro e w6 ⟨rfl, rfl⟩
                      clear HRO
                      by_cases hbig : z - 32 < (N : Int)
                      · have HE2 : Hid (checkK z (kd ps L) = 64) := by rw [Hid, HE.out, if_pos (by omega)]
                        go_wp2
                        go_ret
                        exact ⟨by rw [HE2.out]; rfl, HB5.out⟩
                      · have HE2 : Hid (checkK z (kd ps L) = 0) := by rw [Hid, HE.out, if_neg (by omega)]
                        go_wp2
                        go_ret
                        exact ⟨by rw [HE2.out]; rfl, HB5.out⟩
  · rw [decide_eq_false hsz] at HS
    have HE : Hid (checkK z (kd ps L) = 1) := check_1 hsz
    clear hsz
    go_enter Try.func33, Try.ntmps33
    go_wp2_with fail
    rw [← hW]
    refine HS.mono ?_
    rintro e w1 ⟨rfl, rfl⟩
    clear hW
    go_wp2
    go_ret
    exact ⟨by rw [HE.out]; rfl, HBW.out⟩
end Go.Proofs.Ytaehchijeinloaa
