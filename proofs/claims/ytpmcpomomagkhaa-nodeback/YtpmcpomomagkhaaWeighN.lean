/- The law's weight: how many bytes a node has, up to a bound. -/
import Derived.Test.YtpmcpomomagkhaaLinks
namespace Go.Proofs.Ytpmcpomomagkhaa
open Go.RowKit

/-- What weight tells: no message has more than thirteen times as many bytes as it counts, if it is not beyond the bound. -/
structure WeighN (w : World) (M : List Ms) (r : Ending) (w' : World) : Prop where
  is : ∃ n : Nat, r = .returned (.int .i64 (n : Int)) ∧ (n ≤ 2147483647 → sizesM M ≤ 13 * n) ∧ n ≤ 1000000000000000 ∧ Below w.heap.size w w'
theorem sizesM_zero (M : List Ms) : sizesM (M.take 0) = 0 := by simp [sizesM]

set_option maxHeartbeats 3200000 in
set_option maxRecDepth 100000 in
theorem weightN_any {w : World} {v : Value} {ps : List Int} {K : List Br.Kc} {M : List Mt} (h : NodeAt w.heap.size w v ps K M) :
    Calls Try.prog 8 #[v] w fun r w' => WeighN w (msOf M) r w' := by
  obtain ⟨vp, vk, vm, rfl, hP, hK, hM⟩ := h.is
  obtain ⟨a1, c1, rfl⟩ := hP.form
  obtain ⟨a2, c2, rfl⟩ := hK.form
  obtain ⟨a3, c3, rfl⟩ := hM.form
  have hsP := hP.short
  have hsK := hK.short
  have hsM := hM.short
  obtain ⟨W, hW⟩ : ∃ W, W = w.alloc (.cells #[.slice a1 ps.length c1, .slice a2 K.length c2, .slice a3 M.length c3] 31) := ⟨_, rfl⟩
  have HBW : Hid (Below w.heap.size w W) := by rw [hW]; exact below_new _ _
  have HX : Hid (NBox W w.heap.size (.slice a1 ps.length c1) (.slice a2 K.length c2) (.slice a3 M.length c3)) := by rw [hW]; exact NBox.new _ _ _ _
  have HK : Hid (Br.KeysAt W.heap.size W (.slice a2 K.length c2) K) := hK.here HBW.out
  have HM : Hid (MsgsAt W.heap.size W (.slice a3 M.length c3) M) := hM.here HBW.out
  obtain ⟨x0, x1, x2⟩ := HX.out.cells
  obtain ⟨p0, hp0⟩ : ∃ p0 : Nat, min (ps.length : Int) 2147483648 = (p0 : Int) := ⟨min ps.length 2147483648, by omega⟩
  have hp1 : p0 ≤ 2147483648 := by omega
  clear h hP hK hM
  go_enter Try.func8, Try.ntmps8
  go_upto_region 2 with fail
  rw [← hW]
  clear hW
  go_wp2_with fail
  go_loopw [3, 4] (fun s i wx => ∃ (k n : Nat), k ≤ K.length ∧ i = .int .i64 k ∧ s = .int .i64 n ∧ n ≤ 200000000000000 ∧ Below W.heap.size W wx) (fun _ i _ => K.length - (intOf i).toNat)
  case atStart => exact ⟨0, p0, by omega, rfl, rfl, by omega, Below.refl _ _⟩
  case round =>
    obtain ⟨k, n, hk, rfl, rfl, hn, hbw⟩ := hrel
    have HB : Hid (Below W.heap.size W wr) := hbw
    obtain ⟨y0, y1, y2⟩ := (HX.out.here hbw).cells
    clear hbw
    by_cases hgo : k < K.length ∧ n ≤ 2147483647
    · have hz : (k : Int) < (K.length : Int) := by omega
      have hzb : (n : Int) ≤ 2147483647 := by omega
      obtain ⟨e, he⟩ : ∃ e, K[k]? = some e := ⟨_, List.getElem?_eq_getElem hgo.1⟩
      have hKr := HK.out.here HB.out
      obtain ⟨g, off, c', e1, k0⟩ := hKr.cell k e he
      cases e1
      have hin := hKr.ok e (List.mem_of_getElem? he)
      have s1 := hin.short
      obtain ⟨ae, ce, f1⟩ := hin.form
      rw [f1] at k0
      clear hKr hin f1 he
      go_wp2
      exact ⟨⟨k + 1, n + 1 + e.k.length, by omega, by go_num, by go_num, by omega, HB.out⟩, by simp [intOf]; omega⟩
    · have hgo' : ¬ ((k : Int) < (K.length : Int) ∧ (n : Int) ≤ 2147483647) := by omega
      by_cases hlt : k < K.length
      · have hz : (k : Int) < (K.length : Int) := by omega
        have hzb : ¬ (n : Int) ≤ 2147483647 := by omega
        clear hgo hgo'
        go_wp2_with fail
        go_loopw [3, 5] (fun s i wx => ∃ (k n : Nat), k ≤ M.length ∧ i = .int .i64 k ∧ s = .int .i64 n ∧ sizesM ((msOf M).take k) ≤ 13 * n ∧ n ≤ 1000000000000000 ∧ Below W.heap.size W wx) (fun _ i _ => M.length - (intOf i).toNat)
        case atStart => exact ⟨0, n, by omega, rfl, rfl, by rw [sizesM_zero]; omega, by omega, HB.out⟩
        case round =>
          clear hz hn hk y0 y1 y2 HB
          obtain ⟨j, m, hj, rfl, rfl, hs, hm, hbw⟩ := hrel
          have HB : Hid (Below W.heap.size W wr) := hbw
          have HS : Hid (sizesM ((msOf M).take j) ≤ 13 * m) := hs
          obtain ⟨y0, y1, y2⟩ := (HX.out.here hbw).cells
          have HBE : Hid (Below w.heap.size w wr) := HBW.out.trans (hbw.mono HBW.out.size)
          clear hbw hs
          by_cases hjl : j < M.length
          · have hz : (j : Int) < (M.length : Int) := by omega
            by_cases hbd : m ≤ 2147483647
            · have hzb : (m : Int) ≤ 2147483647 := by omega
              obtain ⟨e, he⟩ : ∃ e, M[j]? = some e := ⟨_, List.getElem?_eq_getElem hjl⟩
              have hMr := HM.out.here HB.out
              obtain ⟨g, off, c', e1, k0, k1, k2, k3, k4⟩ := hMr.cells j e he
              cases e1
              have hok := hMr.ok e (List.mem_of_getElem? he)
              have s1 := hok.lo.short
              have s2 := hok.hi.short
              have s3 := hok.va.short
              obtain ⟨b1, d1, f1⟩ := hok.lo.form
              obtain ⟨b2, d2, f2⟩ := hok.hi.form
              obtain ⟨b3, d3, f3⟩ := hok.va.form
              rw [f1] at k2
              rw [f2] at k3
              rw [f3] at k4
              have HNX : Hid (sizesM ((msOf M).take (j + 1)) ≤ 13 * (m + 1 + e.m.lo.length + e.m.hi.length + e.m.va.length)) := by
                rw [Hid, sizesM_take _ _ _ (msOf_get he)]
                have := HS.out
                unfold sizeM
                omega
              have HDR : Hid (∀ q, Below W.heap.size W (wr.drewN q)) := fun q => below_draws HB.out q
              clear hMr hok f1 f2 f3 he k0 k1
              go_upto_region 9 with fail
              go_quiet (fail)
              go_wp2
              all_goals exact ⟨⟨j + 1, m + 1 + e.m.lo.length + e.m.hi.length + e.m.va.length, by omega, by go_num, by go_num, HNX.out, by omega, by first | exact HB.out | exact HDR.out _⟩, by simp [intOf]; omega⟩
            · have hzb : ¬ (m : Int) ≤ 2147483647 := by omega
              go_wp2
              go_ret
              exact ⟨m, rfl, fun h => absurd h hbd, hm, HBE.out⟩
          · have hz : ¬ (j : Int) < (M.length : Int) := by omega
            have HE : Hid (sizesM (msOf M) ≤ 13 * m) := by
              have := HS.out
              rw [List.take_of_length_le (by rw [msOf_length]; omega)] at this
              exact this
            go_wp2
            go_ret
            exact ⟨m, rfl, fun _ => HE.out, hm, HBE.out⟩
      · have hz : ¬ (k : Int) < (K.length : Int) := by omega
        clear hgo hgo'
        go_wp2_with fail
        go_loopw [3, 5] (fun s i wx => ∃ (k n : Nat), k ≤ M.length ∧ i = .int .i64 k ∧ s = .int .i64 n ∧ sizesM ((msOf M).take k) ≤ 13 * n ∧ n ≤ 1000000000000000 ∧ Below W.heap.size W wx) (fun _ i _ => M.length - (intOf i).toNat)
        case atStart => exact ⟨0, n, by omega, rfl, rfl, by rw [sizesM_zero]; omega, by omega, HB.out⟩
        case round =>
          clear hz hn hk y0 y1 y2 HB
          obtain ⟨j, m, hj, rfl, rfl, hs, hm, hbw⟩ := hrel
          have HB : Hid (Below W.heap.size W wr) := hbw
          have HS : Hid (sizesM ((msOf M).take j) ≤ 13 * m) := hs
          obtain ⟨y0, y1, y2⟩ := (HX.out.here hbw).cells
          have HBE : Hid (Below w.heap.size w wr) := HBW.out.trans (hbw.mono HBW.out.size)
          clear hbw hs
          by_cases hjl : j < M.length
          · have hz : (j : Int) < (M.length : Int) := by omega
            by_cases hbd : m ≤ 2147483647
            · have hzb : (m : Int) ≤ 2147483647 := by omega
              obtain ⟨e, he⟩ : ∃ e, M[j]? = some e := ⟨_, List.getElem?_eq_getElem hjl⟩
              have hMr := HM.out.here HB.out
              obtain ⟨g, off, c', e1, k0, k1, k2, k3, k4⟩ := hMr.cells j e he
              cases e1
              have hok := hMr.ok e (List.mem_of_getElem? he)
              have s1 := hok.lo.short
              have s2 := hok.hi.short
              have s3 := hok.va.short
              obtain ⟨b1, d1, f1⟩ := hok.lo.form
              obtain ⟨b2, d2, f2⟩ := hok.hi.form
              obtain ⟨b3, d3, f3⟩ := hok.va.form
              rw [f1] at k2
              rw [f2] at k3
              rw [f3] at k4
              have HNX : Hid (sizesM ((msOf M).take (j + 1)) ≤ 13 * (m + 1 + e.m.lo.length + e.m.hi.length + e.m.va.length)) := by
                rw [Hid, sizesM_take _ _ _ (msOf_get he)]
                have := HS.out
                unfold sizeM
                omega
              have HDR : Hid (∀ q, Below W.heap.size W (wr.drewN q)) := fun q => below_draws HB.out q
              clear hMr hok f1 f2 f3 he k0 k1
              go_upto_region 9 with fail
              go_quiet (fail)
              go_wp2
              all_goals exact ⟨⟨j + 1, m + 1 + e.m.lo.length + e.m.hi.length + e.m.va.length, by omega, by go_num, by go_num, HNX.out, by omega, by first | exact HB.out | exact HDR.out _⟩, by simp [intOf]; omega⟩
            · have hzb : ¬ (m : Int) ≤ 2147483647 := by omega
              go_wp2
              go_ret
              exact ⟨m, rfl, fun h => absurd h hbd, hm, HBE.out⟩
          · have hz : ¬ (j : Int) < (M.length : Int) := by omega
            have HE : Hid (sizesM (msOf M) ≤ 13 * m) := by
              have := HS.out
              rw [List.take_of_length_le (by rw [msOf_length]; omega)] at this
              exact this
            go_wp2
            go_ret
            exact ⟨m, rfl, fun _ => HE.out, hm, HBE.out⟩
end Go.Proofs.Ytpmcpomomagkhaa
