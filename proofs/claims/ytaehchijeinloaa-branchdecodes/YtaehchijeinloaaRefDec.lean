/- The document's Decode; its Bytes, Check and Encode for Kids of up to 2^36 bytes. -/
import Derived.Test.YtaehchijeinloaaRefReadW
import Derived.Test.YtaehchijeinloaaRefEnc
namespace Go.Proofs.Ytaehchijeinloaa
open Go.RowKit

/-- As much as any bytes may tell. -/
structure Wide (ps : List Int) (L : List Kc) : Prop where
  le : bytesK (kd ps L) ≤ 68719476736
theorem wide_bytes {ps : List Int} {L : List Kc} (h : Wide ps L) : bytesK (kd ps L) ≤ 68719476736 := h.le
set_option maxHeartbeats 800000 in
set_option maxRecDepth 100000 in
theorem refBytesW_any {w : World} {v : Value} {ps : List Int} {L : List Kc} (h : KidsAt w.heap.size w v ps L) (hl : Wide ps L) :
    Calls Try.prog 34 #[v] w fun r w' => r = .returned (.int .i64 (bytesK (kd ps L) : Nat)) ∧ Below w.heap.size w w' := by
  have HLB : Hid (bytesK (kd ps L) ≤ 68719476736) := wide_bytes hl
  obtain ⟨vp, vk, rfl, h1, h2⟩ := h.is
  obtain ⟨a1, c1, rfl⟩ := h1.form
  obtain ⟨a2, c2, rfl⟩ := h2.form
  have hs1 := h1.short
  have hs2 := h2.short
  obtain ⟨W, hW⟩ : ∃ W, W = w.alloc (.cells #[.slice a1 ps.length c1, .slice a2 L.length c2] 26) := ⟨_, rfl⟩
  have HBW : Hid (Below w.heap.size w W) := by rw [hW]; exact below_new _ _
  have HK : Hid (KeysAt W.heap.size W (.slice a2 L.length c2) L) := h2.here HBW.out
  clear h h1 h2 hl
  go_enter Try.func34, Try.ntmps34
  go_wp2
  rw [← hW]
  have c0 : W.cell? ⟨w.heap.size, 1, none⟩ = some (.slice a2 L.length c2) := by rw [hW, row_cell (heap_alloc_last w _)]; rfl
  clear hW
  go_loopw [3, 4] (fun n i wx => ∃ (k N : Nat), k ≤ L.length ∧ i = .int .i64 k ∧ n = .int .i64 N ∧ N = 2 + 4 * ps.length + bytesL ((keysOf L).take k) ∧ wx = W) (fun _ i _ => L.length - (intOf i).toNat)
  case atStart => exact ⟨0, 2 + 4 * ps.length, by omega, rfl, by go_num, by simp [bytesL], rfl⟩
  case round =>
    obtain ⟨k, N, hk, rfl, rfl, hN, rfl⟩ := hrel
    have hNb : N ≤ 68719476736 := by
      have h1 := bytesL_take_le (keysOf L) k
      have h2 := HLB.out
      have h3 : bytesK (kd ps L) = 2 + 4 * ps.length + bytesL (keysOf L) := rfl
      omega
    have HN : Hid (N = 2 + 4 * ps.length + bytesL ((keysOf L).take k)) := hN
    clear hN
    by_cases hlt : k < L.length
    · have hz : (k : Int) < (L.length : Int) := by omega
      obtain ⟨e, he⟩ : ∃ e, L[k]? = some e := ⟨_, List.getElem?_eq_getElem hlt⟩
      obtain ⟨g, off, _, e1, hcell⟩ := HK.out.cell k e he
      cases e1
      have hok := HK.out.ok e (List.mem_of_getElem? he)
      have hsh : e.k.length ≤ 140737488355328 := hok.short
      obtain ⟨a, c, e2⟩ := hok.form
      rw [e2] at hcell
      have HS : Hid (N + (2 + e.k.length) = 2 + 4 * ps.length + bytesL ((keysOf L).take (k + 1))) := by
        rw [Hid, HN.out, bytesL_take _ _ _ (keysOf_get he)]
        omega
      clear he hok e2
      go_wp2
      exact ⟨⟨k + 1, N + (2 + e.k.length), by omega, by go_num, by go_num, HS.out, by first | trivial | rfl⟩, by simp [intOf]; omega⟩
    · have hz : ¬ (k : Int) < (L.length : Int) := by omega
      have HE : Hid (N = bytesK (kd ps L)) := by
        rw [Hid, HN.out, List.take_of_length_le (by rw [keysOf_length]; omega)]
        rfl
      go_wp2
      go_ret
      exact ⟨by rw [← HE.out]; rfl, HBW.out⟩

set_option maxHeartbeats 3200000 in
set_option maxRecDepth 100000 in
theorem refCheckW_any {w : World} {v : Value} {ps : List Int} {L : List Kc} {z : Int} (h : KidsAt w.heap.size w v ps L) (hl : Wide ps L) :
    Calls Try.prog 33 #[.int .i64 z, v] w fun r w' => r = .returned (.int .i64 (checkK z (kd ps L) : Nat)) ∧ Below w.heap.size w w' := by
  have HLI : Hid (Wide ps L) := hl
  obtain ⟨vp, vk, rfl, h1, h2⟩ := h.is
  obtain ⟨a1, c1, rfl⟩ := h1.form
  obtain ⟨a2, c2, rfl⟩ := h2.form
  have hs1 := h1.short
  have hs2 := h2.short
  obtain ⟨W, hW⟩ : ∃ W, W = w.alloc (.cells #[.slice a1 ps.length c1, .slice a2 L.length c2] 26) := ⟨_, rfl⟩
  have HBW : Hid (Below w.heap.size w W) := by rw [hW]; exact below_new _ _
  have HP : Hid (IntsAt W.heap.size W (.slice a1 ps.length c1) ps) := h1.here HBW.out
  have HK : Hid (KeysAt W.heap.size W (.slice a2 L.length c2) L) := h2.here HBW.out
  have HX : Hid (KBox W w.heap.size (.slice a1 ps.length c1) (.slice a2 L.length c2)) := by rw [hW]; exact KBox.new _ _ _
  have HKD : Hid (KidsAt W.heap.size W (.agg #[.slice a1 ps.length c1, .slice a2 L.length c2]) ps L) := h.here HBW.out
  clear h h1 h2 hl
  obtain ⟨k0, k1⟩ := HX.out.cells
  have HS := refSized_any W z
  by_cases hsz : Sized z
  · rw [decide_eq_true hsz] at HS
    have HSZ : Hid (Sized z) := hsz
    have hzz := sized_le hsz
    clear hsz
    by_cases h2p : ps.length < 2
    · have h2z : (ps.length : Int) < 2 := by omega
      have HE : Hid (checkK z (kd ps L) = 61) := check_61 HSZ.out (.inl h2p)
      go_enter Try.func33, Try.ntmps33
      go_wp2_with fail
      rw [← hW]
      refine HS.mono ?_
      rintro e w1 ⟨rfl, rfl⟩
      clear hW
      go_wp2
      go_ret
      exact ⟨by rw [HE.out]; rfl, HBW.out⟩
    · have h2z : ¬ (ps.length : Int) < 2 := by omega
      cases hf : (kd ps L).fit with
      | false =>
        have HE : Hid (checkK z (kd ps L) = 61) := check_61 HSZ.out (.inr (.inl hf))
        have HF := refFit_any HKD.out
        rw [hf] at HF
        clear hf
        go_enter Try.func33, Try.ntmps33
        go_wp2_with fail
        rw [← hW]
        refine HS.mono ?_
        rintro e w1 ⟨rfl, rfl⟩
        clear hW
        go_wp2_with fail
        refine HF.mono ?_
        rintro e w2 ⟨rfl, hb⟩
        have HB2 : Hid (Below w.heap.size w w2) := HBW.out.trans (hb.mono HBW.out.size)
        clear hb HF k0 k1
        go_wp2
        go_ret
        exact ⟨by rw [HE.out]; rfl, HB2.out⟩
      | true =>
        have HFT : Hid ((kd ps L).fit = true) := hf
        have HF := refFit_any HKD.out
        rw [hf] at HF
        clear hf
        go_enter Try.func33, Try.ntmps33
        go_wp2_with fail
        rw [← hW]
        refine HS.mono ?_
        rintro e w1 ⟨rfl, rfl⟩
        clear hW
        go_wp2_with fail
        refine HF.mono ?_
        rintro e w2 ⟨rfl, hb⟩
        have HB2 : Hid (Below w1.heap.size w1 w2) := hb
        clear hb HF k0 k1
        obtain ⟨k0, k1⟩ := (HX.out.here HB2.out).cells
        have HA := refAlike_any (HP.out.here HB2.out)
        cases hnd : decide ps.Nodup with
        | false =>
          have HE : Hid (checkK z (kd ps L) = 61) := check_61 HSZ.out (.inr (.inr (by
            have h9 : ¬ ps.Nodup := of_decide_eq_false hnd
            rw [← Bool.not_eq_true, pages_iff]
            exact fun h => h9 h.2)))
          rw [hnd] at HA
          clear hnd
          go_wp2_with fail
          refine HA.mono ?_
          rintro e w3 ⟨rfl, hb⟩
          have HB3 : Hid (Below w.heap.size w w3) := HBW.out.trans ((HB2.out.trans (hb.mono HB2.out.size)).mono HBW.out.size)
          clear hb HA k0 k1
          go_wp2
          go_ret
          exact ⟨by rw [HE.out]; rfl, HB3.out⟩
        | true =>
          have HND : Hid (ps.Nodup) := (of_decide_eq_true hnd : ps.Nodup)
          rw [hnd] at HA
          clear hnd
          go_wp2_with fail
          refine HA.mono ?_
          rintro e w3 ⟨rfl, hb⟩
          have HB3 : Hid (Below w1.heap.size w1 w3) := HB2.out.trans (hb.mono HB2.out.size)
          have HX3 : Hid (KBox w3 w.heap.size (.slice a1 ps.length c1) (.slice a2 L.length c2)) := HX.out.here HB3.out
          have HP3 : Hid (IntsAt w3.heap.size w3 (.slice a1 ps.length c1) ps) := HP.out.here HB3.out
          have HK3 : Hid (KeysAt w3.heap.size w3 (.slice a2 L.length c2) L) := HK.out.here HB3.out
          have HLW : Hid (Below w.heap.size w w3) := HBW.out.trans (HB3.out.mono HBW.out.size)
          clear hb HA HB2 HX HP HK k0 k1
          obtain ⟨k0, k1⟩ := HX3.out.cells
          go_wp2_with fail
          clear k1
          go_loopw [5] (fun i wx => ∃ k : Nat, k ≤ ps.length ∧ i = .int .i64 k ∧ (∀ (j : Nat) p, j < k → ps[j]? = some p → 2 ≤ p ∧ p ≤ 65535) ∧ wx = w3) (fun i _ => ps.length - (intOf i).toNat)
          case atStart => exact ⟨0, by omega, rfl, fun j p hj => absurd hj (by omega), rfl⟩
          case round =>
            clear k0
            obtain ⟨k, hk, rfl, hall, rfl⟩ := hrel
            have HALL : Hid (∀ (j : Nat) p, j < k → ps[j]? = some p → 2 ≤ p ∧ p ≤ 65535) := hall
            clear hall
            obtain ⟨k0, k1⟩ := HX3.out.cells
            by_cases hlt : k < ps.length
            · have hz : (k : Int) < (ps.length : Int) := by omega
              obtain ⟨p, hp⟩ : ∃ p, ps[k]? = some p := ⟨_, List.getElem?_eq_getElem hlt⟩
              obtain ⟨g, off, _, e1, hc⟩ := HP3.out.cell k p hp
              cases e1
              have HPG : Hid (ps[k]? = some p) := hp
              have HBAD : Hid (¬ (2 ≤ p ∧ p ≤ 65535) → checkK z (kd ps L) = 61) := fun hb => check_61 HSZ.out (.inr (.inr (by
                rw [← Bool.not_eq_true, pages_iff]
                exact fun h => hb (h.1 p (List.mem_of_getElem? HPG.out)))))
              clear hp
              by_cases hp2 : p < 2
              · have HE : Hid (checkK z (kd ps L) = 61) := HBAD.out (by omega)
                go_wp2
                go_ret
                exact ⟨by rw [HE.out]; rfl, HLW.out⟩
              · by_cases hp3 : 65535 < p
                · have HE : Hid (checkK z (kd ps L) = 61) := HBAD.out (by omega)
                  go_wp2
                  go_ret
                  exact ⟨by rw [HE.out]; rfl, HLW.out⟩
                · have HN : Hid (∀ (j : Nat) x, j < k + 1 → ps[j]? = some x → 2 ≤ x ∧ x ≤ 65535) := fun j x hj hx => by
                    rcases Nat.lt_or_ge j k with h | h
                    · exact HALL.out j x h hx
                    · have : j = k := by omega
                      subst this
                      rw [HPG.out] at hx
                      cases hx
                      omega
                  go_wp2
                  exact ⟨⟨k + 1, by omega, by go_num, HN.out, by first | trivial | rfl⟩, by simp [intOf]; omega⟩
            · have hz : ¬ (k : Int) < (ps.length : Int) := by omega
              have HPO : Hid (pagesOk ps = true) := pages_iff.2 ⟨fun p hp => by
                obtain ⟨j, hj⟩ := List.getElem?_of_mem hp
                have := (List.getElem?_eq_some_iff.1 hj).1
                exact HALL.out j p (by omega) hj, HND.out⟩
              have HGO : Hid (¬ ((kd ps L).ps.length < 2 ∨ (kd ps L).fit = false ∨ pagesOk (kd ps L).ps = false)) := by
                rintro (h | h | h)
                · exact h2p h
                · rw [HFT.out] at h; cases h
                · have h9 : pagesOk ps = false := h
                  rw [HPO.out] at h9; cases h9
              obtain ⟨W3, rfl⟩ : ∃ W3, W3 = wr := ⟨_, rfl⟩
              clear HALL
              go_wp2_with fail
              clear k0
              go_loopw [6] (fun i wx => ∃ m : Nat, m ≤ L.length ∧ i = .int .i64 m ∧ (∀ (j : Nat) x, j < m → (keysOf L)[j]? = some x → 1 ≤ x.length ∧ x.length ≤ z.toNat / 16) ∧ wx = W3) (fun i _ => L.length - (intOf i).toNat)
              case atStart => exact ⟨0, by omega, rfl, fun j x hj => absurd hj (by omega), rfl⟩
              case round =>
                clear k1
                obtain ⟨m, hm, rfl, hall, rfl⟩ := hrel
                have HALL : Hid (∀ (j : Nat) x, j < m → (keysOf L)[j]? = some x → 1 ≤ x.length ∧ x.length ≤ z.toNat / 16) := hall
                clear hall
                obtain ⟨k0, k1⟩ := HX3.out.cells
                by_cases hlt2 : m < L.length
                · have hz2 : (m : Int) < (L.length : Int) := by omega
                  obtain ⟨e, he⟩ : ∃ e, L[m]? = some e := ⟨_, List.getElem?_eq_getElem hlt2⟩
                  obtain ⟨g, off, _, e1, hc⟩ := HK3.out.cell m e he
                  cases e1
                  have HKG : Hid ((keysOf L)[m]? = some e.k) := keysOf_get he
                  have hok := HK3.out.ok e (List.mem_of_getElem? he)
                  have hsh : e.k.length ≤ 140737488355328 := hok.short
                  obtain ⟨ae, ce, e2⟩ := hok.form
                  rw [e2] at hc
                  have HBAD : Hid (¬ (1 ≤ e.k.length ∧ e.k.length ≤ z.toNat / 16) → checkK z (kd ps L) = 62) := fun hb => check_62 HSZ.out HGO.out (by
                    rw [← Bool.not_eq_true, keys_iff]
                    exact fun h => hb (h e.k (List.mem_of_getElem? HKG.out)))
                  clear he hok e2
                  by_cases hp2 : e.k.length < 1
                  · have hp2z : (e.k.length : Int) < 1 := by omega
                    have HE : Hid (checkK z (kd ps L) = 62) := HBAD.out (by omega)
                    go_wp2
                    go_ret
                    exact ⟨by rw [HE.out]; rfl, HLW.out⟩
                  · have hp2z : ¬ (e.k.length : Int) < 1 := by omega
                    by_cases hp3 : z / 16 < (e.k.length : Int)
                    · have HE : Hid (checkK z (kd ps L) = 62) := HBAD.out (by omega)
                      go_wp2
                      go_ret
                      exact ⟨by rw [HE.out]; rfl, HLW.out⟩
                    · have HN : Hid (∀ (j : Nat) x, j < m + 1 → (keysOf L)[j]? = some x → 1 ≤ x.length ∧ x.length ≤ z.toNat / 16) := fun j x hj hx => by
                        rcases Nat.lt_or_ge j m with h | h
                        · exact HALL.out j x h hx
                        · have : j = m := by omega
                          subst this
                          rw [HKG.out] at hx
                          cases hx
                          omega
                      go_wp2
                      exact ⟨⟨m + 1, by omega, by go_num, HN.out, by first | trivial | rfl⟩, by simp [intOf]; omega⟩
                · have hz2 : ¬ (m : Int) < (L.length : Int) := by omega
                  have HKO : Hid (keysOk z.toNat (keysOf L) = true) := keys_iff.2 fun x hx => by
                    obtain ⟨j, hj⟩ := List.getElem?_of_mem hx
                    have := (List.getElem?_eq_some_iff.1 hj).1
                    rw [keysOf_length] at this
                    exact HALL.out j x (by omega) hj
                  obtain ⟨W4, rfl⟩ : ∃ W4, W4 = wr := ⟨_, rfl⟩
                  clear HALL
                  go_wp2_with fail
                  go_loopw [7] (fun i wx => ∃ n : Nat, 1 ≤ n ∧ i = .int .i64 n ∧ ((keysOf L).take n).Pairwise (· < ·) ∧ ∃ q, wx = W4.drewN q) (fun i _ => L.length - (intOf i).toNat)
                  case atStart => exact ⟨1, by omega, rfl, by match keysOf L with | [] => exact List.Pairwise.nil | x :: M => simp, 0, rfl⟩
                  case round =>
                    obtain ⟨n, hn, rfl, hri, q, rfl⟩ := hrel
                    have HRI : Hid (((keysOf L).take n).Pairwise (· < ·)) := hri
                    clear hri
                    by_cases hlt3 : n < L.length
                    · have hz3 : (n : Int) < (L.length : Int) := by omega
                      obtain ⟨j, hj⟩ : ∃ j, n = j + 1 := ⟨n - 1, by omega⟩
                      have hj1 : (n : Int) - 1 = (j : Int) := by omega
                      have hj2 : (j : Int) < (L.length : Int) := by omega
                      have hwj : IntKind.i64.wrap (j : Int) = (j : Int) := wrapk_of _ (by omega) (by omega)
                      obtain ⟨x, hx⟩ : ∃ x, L[n]? = some x := ⟨_, List.getElem?_eq_getElem hlt3⟩
                      obtain ⟨y, hy⟩ : ∃ y, L[j]? = some y := ⟨L[j]'(by omega), List.getElem?_eq_getElem _⟩
                      have HXG : Hid ((keysOf L)[n]? = some x.k) := keysOf_get hx
                      have HYG : Hid ((keysOf L)[n - 1]? = some y.k) := by rw [hj, Nat.add_sub_cancel]; exact keysOf_get hy
                      obtain ⟨g1, off1, _, e1, hc1⟩ := HK3.out.cell n x hx
                      cases e1
                      obtain ⟨g2, off2, _, e2, hc2⟩ := HK3.out.cell j y hy
                      cases e2
                      have hx1 := HK3.out.ok x (List.mem_of_getElem? hx)
                      have hy1 := HK3.out.ok y (List.mem_of_getElem? hy)
                      have v1 : ∀ q, Sem.run Try.prog (convert 27 9 x.v) (W4.drewN q) = .ok (.string (strB x.k)) (W4.drewN q) := fun q => conv_key ((hx1.at (Nat.le_refl _)).draws q)
                      have v2 : ∀ q, Sem.run Try.prog (convert 27 9 y.v) (W4.drewN q) = .ok (.string (strB y.k)) (W4.drewN q) := fun q => conv_key ((hy1.at (Nat.le_refl _)).draws q)
                      have s1 := strB_lt y.k x.k
                      clear hx hy hx1 hy1 hj
                      by_cases hxy : y.k < x.k
                      · have HNX : Hid (((keysOf L).take (n + 1)).Pairwise (· < ·)) := rise_next hn HXG.out HYG.out hxy HRI.out
                        rw [decide_eq_true hxy] at s1
                        clear hxy
                        generalize strB x.k = S1 at v1 s1
                        generalize strB y.k = S2 at v2 s1
                        go_wp2_with fail
                        go_quiet (fail)
                        go_wp2
                        exact ⟨⟨n + 1, by omega, by go_num, HNX.out, _, rfl⟩, by simp [intOf]; omega⟩
                      · have HE : Hid (checkK z (kd ps L) = 63) := check_63 HSZ.out HGO.out HKO.out (by
                          rw [← Bool.not_eq_true, rise_iff]
                          exact not_rise hn HXG.out HYG.out hxy)
                        rw [decide_eq_false hxy] at s1
                        clear hxy
                        generalize strB x.k = S1 at v1 s1
                        generalize strB y.k = S2 at v2 s1
                        go_wp2_with fail
                        go_quiet (fail)
                        go_wp2
                        go_ret
                        exact ⟨by rw [HE.out]; rfl, below_draws (below_draws HLW.out _) _⟩
                    · have hz3 : ¬ (n : Int) < (L.length : Int) := by omega
                      have HRK : Hid (riseK (keysOf L) = true) := rise_iff.2 (by
                        have := HRI.out
                        rw [List.take_of_length_le (by rw [keysOf_length]; omega)] at this
                        exact this)
                      have HE : Hid (checkK z (kd ps L) = if z.toNat - 32 < bytesK (kd ps L) then 64 else 0) := check_64 HSZ.out HGO.out HKO.out HRK.out
                      have HBY := refBytesW_any (w := W4.drewN q) ((HKD.out.here HB3.out).here (below_draws (Below.refl _ _) q)) HLI.out
                      have hbl := wide_bytes HLI.out
                      obtain ⟨N, hN⟩ : ∃ N, N = bytesK (kd ps L) := ⟨_, rfl⟩
                      rw [← hN] at HBY hbl HE
                      clear hN
                      go_wp2_with fail
                      refine HBY.mono ?_
                      rintro e w5 ⟨rfl, hb⟩
                      have HB5 : Hid (Below w.heap.size w w5) := (below_draws HLW.out q).trans (hb.mono (by have := HLW.out.size; exact this))
                      clear hb HBY
                      have HRO := refRoom_any w5 z
                      rw [if_pos HSZ.out] at HRO
                      go_wp2_with fail
                      refine HRO.mono ?_
                      rintro e w6 ⟨rfl, rfl⟩
                      clear HRO
                      by_cases hbig : z - 32 < (N : Int)
                      · have HE2 : Hid (checkK z (kd ps L) = 64) := by rw [Hid, HE.out, if_pos (by omega)]
                        go_wp2
                        go_ret
                        exact ⟨by rw [HE2.out]; rfl, HB5.out⟩
                      · have HE2 : Hid (checkK z (kd ps L) = 0) := by rw [Hid, HE.out, if_neg (by omega)]
                        go_wp2
                        go_ret
                        exact ⟨by rw [HE2.out]; rfl, HB5.out⟩
  · rw [decide_eq_false hsz] at HS
    have HE : Hid (checkK z (kd ps L) = 1) := check_1 hsz
    clear hsz
    go_enter Try.func33, Try.ntmps33
    go_wp2_with fail
    rw [← hW]
    refine HS.mono ?_
    rintro e w1 ⟨rfl, rfl⟩
    clear hW
    go_wp2
    go_ret
    exact ⟨by rw [HE.out]; rfl, HBW.out⟩
set_option maxHeartbeats 1600000 in
set_option maxRecDepth 100000 in
theorem refEncodeW_any {w : World} {v : Value} {ps : List Int} {L : List Kc} {z : Int} (h : KidsAt w.heap.size w v ps L) (hl : Wide ps L) :
    Calls Try.prog 14 #[.int .i64 z, v] w fun r w' => ∃ v', r = .returned (.tuple #[v', .int .i64 (checkK z (kd ps L) : Nat)]) ∧ NewKey w.heap.size w' v' (if checkK z (kd ps L) = 0 then encK (kd ps L) else []) ∧ Below w.heap.size w w' := by
  obtain ⟨i0, hi0, hz0, hz1, hz2⟩ := info5'
  obtain ⟨vp, vk, rfl, h1, h2⟩ := h.is
  obtain ⟨a1, c1, rfl⟩ := h1.form
  obtain ⟨a2, c2, rfl⟩ := h2.form
  have hs1 := h1.short
  have hs2 := h2.short
  obtain ⟨W, hW⟩ : ∃ W, W = w.alloc (.cells #[.slice a1 ps.length c1, .slice a2 L.length c2] 26) := ⟨_, rfl⟩
  have HBW : Hid (Below w.heap.size w W) := by rw [hW]; exact below_new _ _
  have HX : Hid (KBox W w.heap.size (.slice a1 ps.length c1) (.slice a2 L.length c2)) := by rw [hW]; exact KBox.new _ _ _
  have HKI : Hid (∀ W', Below W.heap.size W W' → KidsAt W'.heap.size W' (.agg #[.slice a1 ps.length c1, .slice a2 L.length c2]) ps L) := fun W' hb => (KidsAt.here ⟨_, _, rfl, h1, h2⟩ HBW.out).here hb
  have HPI : Hid (IntsAt W.heap.size W (.slice a1 ps.length c1) ps) := h1.here HBW.out
  have HKS : Hid (KeysAt W.heap.size W (.slice a2 L.length c2) L) := h2.here HBW.out
  have HCK : Hid (Calls Try.prog 33 #[.int .i64 z, .agg #[.slice a1 ps.length c1, .slice a2 L.length c2]] W fun r w'' => r = .returned (.int .i64 (checkK z (kd ps L) : Nat)) ∧ Below W.heap.size W w'') := refCheckW_any (KidsAt.here ⟨_, _, rfl, h1, h2⟩ HBW.out) hl
  clear h h1 h2
  obtain ⟨k0, k1⟩ := HX.out.cells
  by_cases hc : checkK z (kd ps L) = 0
  · obtain ⟨hlp, hlk, hby, hkl⟩ := check_small hc
    have hpg := (pages_iff.1 (checkK_ok hc).2.2.2.1).1
    have HPG : Hid (∀ p ∈ ps, 2 ≤ p ∧ p ≤ 65535) := hpg
    have HKL : Hid (∀ k ∈ keysOf L, k.length ≤ 256) := hkl
    rw [hc] at HCK ⊢
    simp only [if_true]
    have hlp' : ps.length < 1024 := hlp
    have hlk' : L.length < 1024 := by have : (kd ps L).ks.length = L.length := keysOf_length L; omega
    have HEN : Hid (encK (kd ps L) = two ps.length ++ encP ps ++ encKs (keysOf L)) := rfl
    have HPL : Hid (∀ k, (encP (ps.take k)).length ≤ 4096) := fun k => by
      rw [encP_length, List.length_take]; omega
    have HKSL : Hid (∀ k, (encKs ((keysOf L).take k)).length ≤ 4064) := fun k => by
      rw [encKs_length]
      have h1 : bytesL ((keysOf L).take k) + bytesL ((keysOf L).drop k) = bytesL (keysOf L) := by rw [← bytesL_append, List.take_append_drop]
      have h2 : bytesK (kd ps L) = 2 + 4 * ps.length + bytesL (keysOf L) := rfl
      omega
    clear hc hlp hlk hby hkl hpg
    go_enter Try.func14, Try.ntmps14
    go_wp2_with fail
    rw [← hW]
    clear hW
    refine HCK.out.mono ?_
    rintro r w1 ⟨rfl, hb1⟩
    have HB1 : Hid (Below W.heap.size W w1) := hb1
    obtain ⟨m0, m1⟩ := (HX.out.here hb1).cells
    clear hb1 HCK k0 k1
    go_wp2_with fail
    refine (refTwo_any (base := w1.heap.size) (n := ps.length) (NewKey.nil _ _) (by simp) (by omega) (Nat.le_refl _)).mono ?_
    rintro r w4 ⟨v4, rfl, hv4, hk4⟩
    have HV4 : Hid (NewKey W.heap.size w4 v4 (two ps.length)) := NewKey.mono hv4 HB1.out.size
    have HB4 : Hid (Below W.heap.size W w4) := HB1.out.trans (hk4.low.mono HB1.out.size)
    obtain ⟨q0, q1⟩ := (HX.out.here HB4.out).cells
    clear hv4 hk4 m0 m1 HB1
    go_wp2_with fail
    go_loopw [7, 8] (fun b i wx => ∃ k : Nat, k ≤ ps.length ∧ i = .int .i64 k ∧ NewKey W.heap.size wx b (two ps.length ++ encP (ps.take k)) ∧ Below W.heap.size W wx) (fun _ i _ => ps.length - (intOf i).toNat)
    case atStart => exact ⟨0, by omega, rfl, by simp only [List.take_zero, encP, List.flatMap_nil, List.append_nil]; exact HV4.out, HB4.out⟩
    case round =>
      obtain ⟨k, hk, rfl, hv, hbe⟩ := hrel
      obtain ⟨x0, x1⟩ := (HX.out.here hbe).cells
      have HV : Hid (NewKey W.heap.size wr u7 (two ps.length ++ encP (ps.take k))) := hv
      have HBE : Hid (Below W.heap.size W wr) := hbe
      by_cases hlt : k < ps.length
      · have hzl : (k : Int) < (ps.length : Int) := by omega
        obtain ⟨p, hp⟩ : ∃ p, ps[k]? = some p := ⟨_, List.getElem?_eq_getElem hlt⟩
        obtain ⟨g, off, _, e1, hcell⟩ := (HPI.out.here hbe).cell k p hp
        cases e1
        obtain ⟨n, hn⟩ : ∃ n : Nat, p = (n : Int) := ⟨p.toNat, by have := HPG.out p (List.mem_of_getElem? hp); omega⟩
        have hnb : n < 4294967296 := by have := HPG.out p (List.mem_of_getElem? hp); omega
        have HST : Hid (two ps.length ++ encP (ps.take (k + 1)) = (two ps.length ++ encP (ps.take k)) ++ four n) := by
          rw [Hid, encP_take _ _ _ hp, ← List.append_assoc, hn, Int.toNat_natCast]
        subst hn
        have HLN : Hid ((two ps.length ++ encP (ps.take k)).length ≤ 5000) := by
          have := HPL.out k
          rw [Hid, List.length_append, two_length]; omega
        clear hv hbe hp
        go_wp2_with fail
        refine (refFour_any (n := n) HV.out (by have := HLN.out; omega) hnb HBE.out.size).mono ?_
        rintro r w5 ⟨v5, rfl, hv5, hk5⟩
        have HV5 : Hid (NewKey W.heap.size w5 v5 ((two ps.length ++ encP (ps.take k)) ++ four n)) := hv5
        have HB5 : Hid (Below W.heap.size W w5) := HBE.out.trans hk5.low
        clear hv5 hk5
        go_wp2
        exact ⟨⟨k + 1, by omega, by go_num, by rw [HST.out]; exact HV5.out, HB5.out⟩, by simp [intOf]; omega⟩
      · have hzl : ¬ (k : Int) < (ps.length : Int) := by omega
        have HV5 : Hid (NewKey W.heap.size wr u7 (two ps.length ++ encP ps)) := by
          have := HV.out
          rw [List.take_of_length_le (by omega)] at this
          exact this
        obtain ⟨w5, hw5⟩ : ∃ w5, w5 = wr := ⟨_, rfl⟩
        rw [← hw5] at HV5 HBE x0 x1
        have HLT : Hid ((two ps.length ++ encP ps).length ≤ 5000) := by
          rw [Hid, List.length_append, two_length, encP_length]; omega
        obtain ⟨T, hT⟩ : ∃ T, T = two ps.length ++ encP ps := ⟨_, rfl⟩
        rw [← hT] at HV5 HLT HEN
        rw [← hw5]
        clear hv hbe HV hw5 HPG hT
        go_wp2_with fail
        go_loopw [7, 9] (fun b i wx => ∃ k : Nat, k ≤ L.length ∧ i = .int .i64 k ∧ NewKey W.heap.size wx b (T ++ encKs ((keysOf L).take k)) ∧ Below W.heap.size W wx) (fun _ i _ => L.length - (intOf i).toNat)
        case atStart => exact ⟨0, by omega, rfl, by simp only [List.take_zero, encKs, List.flatMap_nil, List.append_nil]; exact HV5.out, HBE.out⟩
        case round =>
          clear x0 x1
          obtain ⟨j, hj, rfl, hv, hbe⟩ := hrel
          obtain ⟨x0, x1⟩ := (HX.out.here hbe).cells
          have HV : Hid (NewKey W.heap.size wr u7 (T ++ encKs ((keysOf L).take j))) := hv
          have HBR : Hid (Below W.heap.size W wr) := hbe
          by_cases hlt2 : j < L.length
          · have hzl : (j : Int) < (L.length : Int) := by omega
            obtain ⟨e, he⟩ : ∃ e, L[j]? = some e := ⟨_, List.getElem?_eq_getElem hlt2⟩
            have hKr := HKS.out.here hbe
            obtain ⟨g, off, _, e1, hcell⟩ := hKr.cell j e he
            cases e1
            have hok := HKS.out.ok e (List.mem_of_getElem? he)
            obtain ⟨ae, ce, e2⟩ := hok.form
            have HEJ : Hid (L[j]? = some e) := he
            have HE2 : Hid (e.v = .slice ae e.k.length ce) := e2
            rw [e2] at hcell hok
            have HOK : Hid (KeyIn W.heap.size W (.slice ae e.k.length ce) e.k) := hok
            have hlek : e.k.length ≤ 256 := HKL.out e.k (List.mem_of_getElem? (keysOf_get he))
            have HST : Hid (T ++ encKs ((keysOf L).take (j + 1)) = ((T ++ encKs ((keysOf L).take j)) ++ two e.k.length) ++ e.k) := by
              rw [Hid, encKs_take _ _ _ (keysOf_get he)]
              simp only [List.append_assoc]
            have HLN : Hid ((T ++ encKs ((keysOf L).take j)).length ≤ 10000) := by
              have h1 := HKSL.out j
              have h2 := HLT.out
              rw [Hid, List.length_append]; omega
            clear hv hbe hKr hok e2 he
            go_wp2_with fail
            refine (refTwo_any (n := e.k.length) HV.out (by have := HLN.out; omega) (by omega) HBR.out.size).mono ?_
            rintro r w6 ⟨v6, rfl, hv6, hk6⟩
            have HV6 : Hid (NewKey W.heap.size w6 v6 ((T ++ encKs ((keysOf L).take j)) ++ two e.k.length)) := hv6
            have HB6 : Hid (Below W.heap.size W w6) := HBR.out.trans hk6.low
            have HLN6 : Hid (((T ++ encKs ((keysOf L).take j)) ++ two e.k.length).length + e.k.length ≤ 140737488355328) := by
              have := HLN.out
              rw [Hid, List.length_append, two_length]; omega
            clear hv6 hk6 x0 x1 hcell
            obtain ⟨x0, x1⟩ := (HX.out.here HB6.out).cells
            obtain ⟨g', off', _, e1', hcell⟩ := (HKS.out.here HB6.out).cell j e HEJ.out
            cases e1'
            rw [HE2.out] at hcell
            go_wp2_with (at_builtin; refine wpList_append_key rfl _ _ rfl W.heap.size v6 _ _ e.k rfl HV6.out rfl ((HOK.out.below HB6.out).at HB6.out.size) HLN6.out HB6.out.size ?_
                         intro v7 w7 hv7 hk7
                         have HV7 : Hid (NewKey W.heap.size w7 v7 (((T ++ encKs ((keysOf L).take j)) ++ two e.k.length) ++ e.k)) := hv7
                         have HB7 : Hid (Below W.heap.size W w7) := HB6.out.trans hk7.low
                         clear hv7 hk7)
            exact ⟨⟨j + 1, by omega, by go_num, by rw [HST.out]; exact HV7.out, HB7.out⟩, by simp [intOf]; omega⟩
          · have hzl : ¬ (j : Int) < (L.length : Int) := by omega
            have HR : Hid (NewKey W.heap.size wr u7 (encK (kd ps L))) := by
              have := HV.out
              rw [List.take_of_length_le (by rw [keysOf_length]; omega)] at this
              rw [HEN.out]
              exact this
            clear hv hbe HV
            go_wp2
            go_ret2
            exact ⟨_, rfl, HR.out.mono HBW.out.size, HBW.out.trans (HBR.out.mono HBW.out.size)⟩
  · have hcz : ((checkK z (kd ps L) : Int) != 0) = true := by simp; omega
    rw [if_neg hc]
    go_enter Try.func14, Try.ntmps14
    go_wp2_with fail
    rw [← hW]
    clear hW
    refine HCK.out.mono ?_
    rintro r w1 ⟨rfl, hb1⟩
    have HB1 : Hid (Below w.heap.size w w1) := HBW.out.trans (hb1.mono HBW.out.size)
    clear hb1 HCK k0 k1
    go_wp2
    go_ret2
    exact ⟨_, rfl, NewKey.nil _ _, HB1.out⟩

theorem dec_none {z : Int} {b : Key} (h : ∀ d, readK b ≠ some (d, [])) : decK z b = none := by
  unfold decK
  split
  · split
    · rename_i d hd
      exact absurd hd (h d)
    · rfl
  · rfl
theorem dec_some {z : Int} {b : Key} {d : Kd} (h : readK b = some (d, [])) (hc : checkK z d = 0) : decK z b = some d := by
  have h1 := (readK_back _ _ _ h).1
  rw [List.append_nil] at h1
  exact decK_iff.2 ⟨hc, h1⟩
theorem dec_bad {z : Int} {b : Key} {d : Kd} (h : readK b = some (d, [])) (hc : checkK z d ≠ 0) : decK z b = none := by
  unfold decK
  split
  · rw [h]
    simp only
    rw [if_neg hc]
  · rfl

set_option maxHeartbeats 1600000 in
set_option maxRecDepth 100000 in
theorem refDecode_any {w : World} {v : Value} {b : Key} {z : Int} (h : KeyAt w v b) :
    Calls Try.prog 17 #[.int .i64 z, v] w fun r w' => ∃ v', r = .returned (.tuple #[v', .int .i64 (decErr z b : Nat)]) ∧ NewKids w.heap.size w' v' (decD z b) ∧ Below w.heap.size w w' := by
  obtain ⟨a, c, rfl⟩ := h.in.form
  have hsh := h.short
  obtain ⟨W, hW⟩ : ∃ W, W = w.alloc (.cells #[.slice none 0 0, .slice none 0 0] 26) := ⟨_, rfl⟩
  have HBW : Hid (Below w.heap.size w W) := by rw [hW]; exact below_new _ _
  have HX : Hid (KBox W w.heap.size (.slice none 0 0) (.slice none 0 0)) := by rw [hW]; exact KBox.new _ _ _
  have HK : Hid (KeyAt W (.slice a b.length c) b) := h.here HBW.out
  obtain ⟨x0, x1⟩ := HX.out.cells
  obtain ⟨f0, f1⟩ := HX.out.open
  clear h
  have HNO : Hid (∀ e W', decErr z b = e → decD z b = ⟨[], []⟩ → Below W.heap.size W W' → KBox W' w.heap.size (.slice none 0 0) (.slice none 0 0) →
      (∃ v', Ending.returned (.tuple #[.agg #[.slice none 0 0, .slice none 0 0], .int .i64 (e : Nat)]) = .returned (.tuple #[v', .int .i64 (decErr z b : Nat)]) ∧ NewKids w.heap.size ((W'.setCell ⟨w.heap.size, 0, none⟩ (.slice none 0 0)).setCell ⟨w.heap.size, 1, none⟩ (.slice none 0 0)) v' (decD z b) ∧ Below w.heap.size w ((W'.setCell ⟨w.heap.size, 0, none⟩ (.slice none 0 0)).setCell ⟨w.heap.size, 1, none⟩ (.slice none 0 0)))) := fun e W' he hd hb hx =>
    ⟨_, by rw [he], by rw [hd]; exact NewKids.nil _ _, hx.putNil (HBW.out.trans (hb.mono HBW.out.size)) (Nat.le_refl _)⟩
  have HS := refSized_any W z
  by_cases hz : Sized z
  case neg =>
    rw [decide_eq_false hz] at HS
    have HE : Hid (decErr z b = 1 ∧ decD z b = ⟨[], []⟩) := by
      have hd0 : decK z b = none := by unfold decK; rw [if_neg (by rintro ⟨h, _⟩; exact hz h)]
      unfold decErr decD; rw [Hid, hd0, if_pos hz]; exact ⟨rfl, rfl⟩
    clear hz
    go_enter Try.func17, Try.ntmps17
    go_upto_region 1 with fail
    rw [← hW]
    clear hW
    go_wp2_with fail
    refine HS.mono ?_
    rintro e w1 ⟨rfl, rfl⟩
    go_wp2
    exact bodyPost_ret (ret_kids2 (u := .int .i64 1) rfl rfl rfl (HX.out.put _ _)) rfl (HNO.out 1 w1 HE.out.1 HE.out.2 (Below.refl _ _) HX.out)
  case pos =>
  rw [decide_eq_true hz] at HS
  have HBAD : Hid (decK z b = none → decErr z b = 65 ∧ decD z b = ⟨[], []⟩) := fun hd0 => by
    unfold decErr decD; rw [hd0, if_neg (by simpa using hz)]; exact ⟨rfl, rfl⟩
  have HRD := refRead_any HK.out
  clear hz
  go_enter Try.func17, Try.ntmps17
  go_upto_region 1 with fail
  rw [← hW]
  clear hW
  go_wp2_with fail
  refine HS.mono ?_
  rintro e w0 ⟨rfl, hw0⟩
  obtain rfl := hw0.symm
  clear HS
  go_wp2_with fail
  refine HRD.mono ?_
  rintro r w1 hr
  obtain ⟨vp, vk, ps, F, ok, rfl, hni, hnk, hb1, hcase⟩ := hr.is
  obtain ⟨ap, cp, ep⟩ : ∃ a c, vp = .slice a ps.length c := by
    obtain ⟨a, c, e⟩ := (own_cells hni.own (by simp)).form
    rw [List.length_map] at e
    exact ⟨a, c, e⟩
  subst ep
  obtain ⟨ak, ck, ek⟩ : ∃ a c, vk = .slice a F.length c := by
    obtain ⟨a, c, e⟩ := (own_cells hnk.own (by simp)).form
    rw [List.length_map] at e
    exact ⟨a, c, e⟩
  subst ek
  have HB1 : Hid (Below W.heap.size W w1) := hb1
  have HX1 : Hid (KBox w1 w.heap.size (.slice none 0 0) (.slice none 0 0)) := HX.out.here hb1
  have HNI : Hid (NewInts W.heap.size w1 (.slice ap ps.length cp) ps) := hni
  have HNK : Hid (NewKeys W.heap.size w1 (.slice ak F.length ck) F) := hnk
  clear HRD hr hni hnk hb1 x0 x1 f0 f1
  go_upto_region 4 with fail
  obtain ⟨W2, hW2⟩ : ∃ W2, W2 = w1.alloc (.cells #[.slice ap ps.length cp, .slice ak F.length ck] 26) := ⟨_, rfl⟩
  rw [← hW2]
  have hb2 : Below w1.heap.size w1 W2 := by rw [hW2]; exact below_new _ _
  have HB2 : Hid (Below W.heap.size W W2) := HB1.out.trans (hb2.mono HB1.out.size)
  have HX2 : Hid (KBox W2 w.heap.size (.slice none 0 0) (.slice none 0 0)) := HX1.out.here hb2
  have HY2 : Hid (KBox W2 w1.heap.size (.slice ap ps.length cp) (.slice ak F.length ck)) := by rw [hW2]; exact KBox.new _ _ _
  have HNI2 : Hid (NewInts W.heap.size W2 (.slice ap ps.length cp) ps) := HNI.out.here hb2
  have HNK2 : Hid (NewKeys W.heap.size W2 (.slice ak F.length ck) F) := HNK.out.here hb2
  clear hW2 hb2 HNI HNK HX1 HB1
  obtain ⟨x0, x1⟩ := HX2.out.cells
  obtain ⟨f0, f1⟩ := HX2.out.open
  obtain ⟨y0, y1⟩ := HY2.out.cells
  cases ok with
  | false =>
    have HE : Hid (decErr z b = 65 ∧ decD z b = ⟨[], []⟩) := by
      refine HBAD.out (dec_none ?_)
      rcases hcase with ⟨_, h⟩ | ⟨h, _⟩
      · exact h
      · cases h
    clear hcase HBAD
    go_wp2
    exact bodyPost_ret (ret_kids2 (u := .int .i64 65) rfl rfl rfl (HX2.out.put _ _)) rfl (HNO.out 65 W2 HE.out.1 HE.out.2 HB2.out HX2.out)
  | true =>
    have hrk : readK b = some (⟨ps, keysOf F⟩, []) := by
      rcases hcase with ⟨h, _⟩ | ⟨_, h⟩
      · cases h
      · exact h
    have hbk := readK_back _ _ _ hrk
    have hfits := readK_fits hrk
    have HEB : Hid (encK (kd ps F) = b) := by have := hbk.1; rw [List.append_nil] at this; exact this
    have hsz1 : ps.length * 8 ≤ 140737488355328 := by have := hbk.2.1; simp at this; omega
    have hsz2 : F.length * 24 ≤ 140737488420864 := by have := hbk.2.1; have h2 := hbk.2.2; rw [show (⟨ps, keysOf F⟩ : Kd).ks.length = F.length from keysOf_length F] at h2; simp at this h2; omega
    have HEN : Hid _ := refEncodeW_any (z := z) (w := W2) (v := .agg #[.slice ap ps.length cp, .slice ak F.length ck]) (ps := ps) (L := F) ⟨_, _, rfl, HNI2.out.ints hsz1 (fun p hp => by have := hfits p hp; omega), HNK2.out.at hsz2⟩ ⟨readK_short hrk⟩
    have HRK : Hid (readK b = some (kd ps F, [])) := hrk
    clear hcase hrk hbk hfits hsz1 hsz2
    by_cases hc : checkK z (kd ps F) = 0
    · have HE : Hid (decErr z b = 0 ∧ decD z b = kd ps F) := by
        have hd := dec_some HRK.out hc
        have h2 : decD z b = kd ps F := by unfold decD; rw [hd]; rfl
        exact ⟨decErr_ok.2 (by rw [h2]; exact hd), h2⟩
      rw [if_pos hc, hc, HEB.out] at HEN
      clear hc HBAD HNO
      go_wp2_with fail
      refine Calls.mono HEN.out ?_
      rintro r w3 ⟨v3, rfl, hv3, hb3⟩
      obtain ⟨a3, n3, c3, rfl⟩ := hv3.shape
      have HV3 : Hid (KeyAt w3 (.slice a3 n3 c3) b) := hv3.at
      have HB23 : Hid (Below W.heap.size W w3) := HB2.out.trans (hb3.mono HB2.out.size)
      have HB3 : Hid (Below w.heap.size w w3) := HBW.out.trans (HB23.out.mono HBW.out.size)
      have HX3 : Hid (KBox w3 w.heap.size (.slice none 0 0) (.slice none 0 0)) := HX2.out.here hb3
      have HY3 : Hid (KBox w3 w1.heap.size (.slice ap ps.length cp) (.slice ak F.length ck)) := HY2.out.here hb3
      have HNI3 : Hid (NewInts W.heap.size w3 (.slice ap ps.length cp) ps) := HNI2.out.here hb3
      have HNK3 : Hid (NewKeys W.heap.size w3 (.slice ak F.length ck) F) := HNK2.out.here hb3
      have v1 : Sem.run Try.prog (convert 27 9 (.slice a3 n3 c3)) w3 = .ok (.string (strB b)) w3 := conv_key HV3.out
      have v2 : Sem.run Try.prog (convert 27 9 (.slice a b.length c)) w3 = .ok (.string (strB b)) w3 := conv_key (HK.out.here HB23.out)
      generalize strB b = S1 at v1 v2
      clear HEN hb3 hv3 x0 x1 f0 f1 y0 y1
      obtain ⟨x0, x1⟩ := HX3.out.cells
      obtain ⟨f0, f1⟩ := HX3.out.open
      obtain ⟨y0, y1⟩ := HY3.out.cells
      have HLO2 : Hid (Keep 26 w.heap.size w3 ((w3.setCell ⟨w.heap.size, 0, none⟩ (.slice ap ps.length cp)).setCell ⟨w.heap.size, 1, none⟩ (.slice ak F.length ck))) :=
        (keep_set HX3.out.row (Nat.le_refl _) _).trans (keep_set (HX3.out.set0 _).row (Nat.le_refl _) _)
      go_wp2
      refine bodyPost_ret (ret_kids2 (u := .int .i64 0) rfl rfl rfl (HX3.out.put _ _)) rfl ⟨_, by rw [HE.out.1]; rfl, ?_, HB3.out.trans HLO2.out.low⟩
      rw [HE.out.2]
      exact NewKids.keep ⟨_, _, F, rfl, HNI3.out.mono HBW.out.size, HNK3.out.mono HBW.out.size, rfl⟩ HLO2.out (by decide) (by decide) (by decide)
    · have hcz : ((checkK z (kd ps F) : Int) != 0) = true := by simp; omega
      have HE : Hid (decErr z b = 65 ∧ decD z b = ⟨[], []⟩) := HBAD.out (dec_bad HRK.out hc)
      obtain ⟨N, hN⟩ : ∃ N, N = checkK z (kd ps F) := ⟨_, rfl⟩
      rw [← hN] at HEN hcz
      clear hc HBAD hN
      go_wp2_with fail
      refine Calls.mono HEN.out ?_
      rintro r w3 ⟨v3, rfl, hv3, hb3⟩
      have HB3 : Hid (Below W.heap.size W w3) := HB2.out.trans (hb3.mono HB2.out.size)
      have HX3 : Hid (KBox w3 w.heap.size (.slice none 0 0) (.slice none 0 0)) := HX2.out.here hb3
      clear HEN hb3 hv3 x0 x1 f0 f1 y0 y1
      obtain ⟨x0, x1⟩ := HX3.out.cells
      obtain ⟨f0, f1⟩ := HX3.out.open
      go_wp2
      exact bodyPost_ret (ret_kids2 (u := .int .i64 65) rfl rfl rfl (HX3.out.put _ _)) rfl (HNO.out 65 w3 HE.out.1 HE.out.2 HB3.out HX3.out)
end Go.Proofs.Ytaehchijeinloaa
