/- The law OrderKeys's walk. -/
import Derived.Test.YtphohkchffcjeaaLotKeys
namespace Go.Proofs.Ytphohkchffcjeaa
open Go.RowKit

theorem Book.but {w w' : World} {base b g : Nat} {l0 l1 vl vw : Value} {items : List (Value × Key)} {bs : Key} (h : Book w base b l0 l1 vl vw items) (hb : But g w w') (hr : BRow w g bs) (hi : ∀ z ∈ items, ∀ q, z.1.ownBlock = some q → q ≠ g) : Book w' base b l0 l1 vl vw items :=
  h.moved (hb.other b fun e => absurd rfl (e ▸ h.not_b hr.row (by decide))) (fun k hk => hb.other k fun e => by subst e; exact h.not_l hr.row (by decide) hk) (fun k hk => hb.other k fun e => by subst e; exact h.not_w hr.row (by decide) hk) (fun i v bs k hv hk => hb.other k (hi (v, bs) (List.mem_of_getElem? hv) k hk))
theorem book_new (w : World) (base : Nat) (hb : base ≤ w.heap.size) : Book (w.alloc (.cells #[.slice none 0 0, .slice none 0 0, .slice none 0 0, .slice none 0 0] 31)) base w.heap.size (.slice none 0 0) (.slice none 0 0) (.slice none 0 0) (.slice none 0 0) [] :=
  ⟨heap_alloc_last _ _, hb, World.ownsRow_nil _ _ _ _, World.ownsRow_nil _ _ _ _, fun i v bs h => by simp at h, fun i j v bs v' bs' k h => by simp at h⟩

set_option maxHeartbeats 3200000 in
set_option maxRecDepth 100000 in
theorem orderKeys_walk {w : World} {u v : Value} {k m : Key} (hu : KeyAt w u k) (hv : KeyAt w v m) (hk : k.length ≤ 140737488351232) (hm : m.length ≤ 140737488351232) :
    Calls Try.prog 4 #[u, v] w fun e w' => e = .returned (.bool true) ∧ Below w.heap.size w w' := by
  have HA : Hid (KeyIn w.heap.size w u k) := hu.in
  have HC : Hid (KeyIn w.heap.size w v m) := hv.in
  obtain ⟨a1, c1, rfl, _⟩ := hu.is
  obtain ⟨a2, c2, rfl, _⟩ := hv.is
  obtain ⟨base, hbase⟩ : ∃ base, base = w.heap.size := ⟨_, rfl⟩
  rw [← hbase] at HA HC
  have HBASE : Hid (base = w.heap.size) := hbase
  clear hu hv hbase
  go_enter Try.func4, Try.ntmps4
  go_wp2_with fail
  refine (awake_any w).mono ?_
  rintro e w1 ⟨rfl, hb1⟩
  rw [← HBASE.out] at hb1
  have hs1 : base ≤ w1.heap.size := by rw [HBASE.out]; exact hb1.size
  obtain ⟨wb, hwb⟩ : ∃ wb, wb = w1.alloc (.cells #[.slice none 0 0, .slice none 0 0, .slice none 0 0, .slice none 0 0] 31) := ⟨_, rfl⟩
  have HBb : Hid (Below base w wb) := by rw [hwb]; exact hb1.trans ((below_new w1 _).mono hs1)
  have BKb : Hid (Book wb base w1.heap.size (.slice none 0 0) (.slice none 0 0) (.slice none 0 0) (.slice none 0 0) []) := by rw [hwb]; exact book_new w1 base hs1
  have hsb : w1.heap.size < wb.heap.size := by rw [hwb]; simp
  have HWB : Hid (w1.alloc (.cells #[.slice none 0 0, .slice none 0 0, .slice none 0 0, .slice none 0 0] 31) = wb) := hwb.symm
  obtain ⟨b, hb⟩ : ∃ b, b = w1.heap.size := ⟨_, rfl⟩
  rw [← hb] at BKb hsb
  have hbb : base ≤ b := by omega
  have HLE1 := lent_any ((HA.out.below HBb.out).at (by omega)) hk
  clear hb1 hwb
  go_wp2_with fail
  rw [HWB.out, ← hb]
  clear HWB hb
  refine HLE1.mono ?_
  rintro e w2 ⟨rfl, hr2, hb2⟩
  obtain ⟨gx, hgx⟩ : ∃ gx, gx = wb.heap.size := ⟨_, rfl⟩
  rw [← hgx] at hr2 ⊢
  have HB2 : Hid (Below base w w2) := HBb.out.trans (hb2.mono (by omega))
  have BK2 : Hid (Book w2 base b (.slice none 0 0) (.slice none 0 0) (.slice none 0 0) (.slice none 0 0) []) := BKb.out.here hb2
  have RX2 : Hid (BRow w2 gx (k ++ [251, 252])) := hr2
  have hlx : gx < w2.heap.size := hr2.lt
  have hbx : base ≤ gx := by omega
  have HLE2 := lent_any ((HC.out.below HB2.out).at (by omega)) hm
  clear HLE1 hr2 hb2 hgx
  go_wp2_with fail
  refine HLE2.mono ?_
  rintro e w3 ⟨rfl, hr3, hb3⟩
  obtain ⟨gy, hgy⟩ : ∃ gy, gy = w2.heap.size := ⟨_, rfl⟩
  rw [← hgy] at hr3 ⊢
  have HB3 : Hid (Below base w w3) := HB2.out.trans (hb3.mono (by omega))
  have BK3 : Hid (Book w3 base b (.slice none 0 0) (.slice none 0 0) (.slice none 0 0) (.slice none 0 0) []) := BK2.out.here hb3
  have RX3 : Hid (BRow w3 gx (k ++ [251, 252])) := RX2.out.here hb3
  have RY3 : Hid (BRow w3 gy (m ++ [251, 252])) := hr3
  have hly : gy < w3.heap.size := hr3.lt
  have hxy : gx < gy := by omega
  have HX3 : Hid (KeyS base w3 (.slice (some ⟨gx, 0, none⟩) k.length (k.length + 2)) k) := KeyS.of_row RX3.out _ (by omega) (by omega)
  have HY3 : Hid (KeyS base w3 (.slice (some ⟨gy, 0, none⟩) m.length (m.length + 2)) m) := KeyS.of_row RY3.out _ (by omega) (by omega)
  have HU3 : Hid (KeyS base w3 (.slice a1 k.length c1) k) := KeyS.of_in (HA.out.below HB3.out) (by omega)
  have HV3 : Hid (KeyS base w3 (.slice a2 m.length c2) m) := KeyS.of_in (HC.out.below HB3.out) (by omega)
  have HK1 := keys_any BK3.out HX3.out HY3.out HU3.out HV3.out hk hm (by omega) (by simp)
  clear HLE2 hr3 hb3 hgy
  go_wp2_with fail
  refine HK1.mono ?_
  rintro e w4 ⟨rfl, hg4, vl4, vw4, new1, hbk4, hn1, hz1⟩
  have G34 : Hid (Goes base w3 w4) := hg4
  have BK4 : Hid (Book w4 base b (.slice none 0 0) (.slice none 0 0) vl4 vw4 ([] ++ new1)) := hbk4
  have HZ1 : Hid (∀ z ∈ new1, z.2.length ≤ 140737488351240 ∧ ∀ g, z.1.ownBlock = some g → w3.heap.size ≤ g) := hz1
  have hs4 : w3.heap.size ≤ w4.heap.size := hg4.below.size
  have HK2 := keys_any BK4.out (HX3.out.goes hg4) (HY3.out.goes hg4) (HU3.out.goes hg4) (HV3.out.goes hg4) hk hm (by omega) (by simp [hn1])
  clear HK1 hg4 hbk4 hz1
  go_wp2_with fail
  refine HK2.mono ?_
  rintro e w5 ⟨rfl, hg5, vl5, vw5, new2, hbk5, hn2, hz2⟩
  have G35 : Hid (Goes base w3 w5) := G34.out.trans hg5
  have BK5 : Hid (Book w5 base b (.slice none 0 0) (.slice none 0 0) vl5 vw5 ([] ++ new1 ++ new2)) := hbk5
  have HZ2 : Hid (∀ z ∈ [] ++ new1 ++ new2, z.2.length ≤ 140737488351240 ∧ ∀ g, z.1.ownBlock = some g → w3.heap.size ≤ g) := fun z hz => by
    rcases List.mem_append.1 hz with h | h
    · exact HZ1.out z (by simpa using h)
    · exact ⟨(hz2 z h).1, fun g hg => Nat.le_trans hs4 ((hz2 z h).2 g hg)⟩
  have hs5 : w4.heap.size ≤ w5.heap.size := hg5.below.size
  have HB5 : Hid (Below base w w5) := HB3.out.trans G35.out.below
  have RX5 : Hid (BRow w5 gx (k ++ [251, 252])) := G35.out.row RX3.out
  have RY5 : Hid (BRow w5 gy (m ++ [251, 252])) := G35.out.row RY3.out
  have HKE1 := kept_any RX5.out (HA.out.below HB5.out) hbx hk
  clear HK2 hg5 hbk5 hz2
  go_wp2_with fail
  refine HKE1.mono ?_
  rintro e w6 ⟨rfl, hr6, hbt6⟩
  have BK6 : Hid (Book w6 base b (.slice none 0 0) (.slice none 0 0) vl5 vw5 ([] ++ new1 ++ new2)) := BK5.out.but hbt6 RX5.out fun z hz q hq => by
    have := (HZ2.out z hz).2 q hq
    omega
  have RX6 : Hid (BRow w6 gx (k.map (255 - ·) ++ [251, 252])) := hr6
  have RY6 : Hid (BRow w6 gy (m ++ [251, 252])) := RY5.out.same (hbt6.other gy (by omega))
  have hs6 : w6.heap.size = w5.heap.size := hbt6.size
  have HB6 : Hid (Below base w w6) := HB5.out.trans (hbt6.below.mono hbx)
  have HKE2 := kept_any RY6.out (HC.out.below HB6.out) (by omega) hm
  clear HKE1 hr6 hbt6
  go_wp2_with fail
  refine HKE2.mono ?_
  rintro e w7 ⟨rfl, hr7, hbt7⟩
  have BK7 : Hid (Book w7 base b (.slice none 0 0) (.slice none 0 0) vl5 vw5 ([] ++ new1 ++ new2)) := BK6.out.but hbt7 RY6.out fun z hz q hq => by
    have := (HZ2.out z hz).2 q hq
    omega
  have RX7 : Hid (BRow w7 gx (k.map (255 - ·) ++ [251, 252])) := RX6.out.same (hbt7.other gx (by omega))
  have RY7 : Hid (BRow w7 gy (m.map (255 - ·) ++ [251, 252])) := hr7
  have hs7 : w7.heap.size = w6.heap.size := hbt7.size
  have HB7 : Hid (Below base w w7) := HB6.out.trans (hbt7.below.mono (by omega))
  have HT1 := turned_any ((HA.out.below HB7.out).at (by omega)) hk
  clear HKE2 hr7 hbt7
  go_wp2_with fail
  refine HT1.mono ?_
  rintro e w8 ⟨rfl, hr8, hb8⟩
  obtain ⟨gu, hgu⟩ : ∃ gu, gu = w7.heap.size := ⟨_, rfl⟩
  rw [← hgu] at hr8 ⊢
  have RU8 : Hid (BRow w8 gu (k.map (255 - ·) ++ [251, 252])) := hr8
  have BK8 : Hid (Book w8 base b (.slice none 0 0) (.slice none 0 0) vl5 vw5 ([] ++ new1 ++ new2)) := BK7.out.here hb8
  have RX8 : Hid (BRow w8 gx (k.map (255 - ·) ++ [251, 252])) := RX7.out.here hb8
  have RY8 : Hid (BRow w8 gy (m.map (255 - ·) ++ [251, 252])) := RY7.out.here hb8
  have hs8 : w7.heap.size ≤ w8.heap.size := hb8.size
  have HB8 : Hid (Below base w w8) := HB7.out.trans (hb8.mono (by omega))
  have HT2 := turned_any ((HC.out.below HB8.out).at (by omega)) hm
  clear HT1 hr8 hb8 hgu
  go_wp2_with fail
  refine HT2.mono ?_
  rintro e w9 ⟨rfl, hr9, hb9⟩
  obtain ⟨gv, hgv⟩ : ∃ gv, gv = w8.heap.size := ⟨_, rfl⟩
  rw [← hgv] at hr9 ⊢
  have BK9 : Hid (Book w9 base b (.slice none 0 0) (.slice none 0 0) vl5 vw5 ([] ++ new1 ++ new2)) := BK8.out.here hb9
  have hs9 : w8.heap.size ≤ w9.heap.size := hb9.size
  have HB9 : Hid (Below base w w9) := HB8.out.trans (hb9.mono (by omega))
  obtain ⟨K, hK⟩ : ∃ K : Key, k.map (255 - ·) = K := ⟨_, rfl⟩
  obtain ⟨M, hM⟩ : ∃ M : Key, m.map (255 - ·) = M := ⟨_, rfl⟩
  have hKl : K.length = k.length := by rw [← hK]; simp
  have hMl : M.length = m.length := by rw [← hM]; simp
  rw [hK] at RX8 RU8
  rw [hM] at RY8 hr9
  have kx := KeyS.of_row (base := base) (RX8.out.here hb9) (k.length + 2) (by omega) (by omega)
  have ku := KeyS.of_row (base := base) (RU8.out.here hb9) (k.length + 2) (by omega) (by omega)
  have ky := KeyS.of_row (base := base) (RY8.out.here hb9) (m.length + 2) (by omega) (by omega)
  have kv := KeyS.of_row (base := base) hr9 (m.length + 2) (by omega) (by omega)
  have HK3 := keys_any BK9.out kx ky ku kv (by omega) (by omega) (by omega) (by simp [hn1, hn2])
  rw [hKl, hMl] at HK3
  clear HT2 hr9 hb9 hgv kx ku ky kv hK hM hKl hMl
  go_wp2_with fail
  refine HK3.mono ?_
  rintro e wt ⟨rfl, hgt, vlt, vwt, new3, hbkt, hn3, hz3⟩
  have HBt : Hid (Below base w wt) := HB9.out.trans hgt.below
  have HEN := lotEnds_none hbkt (Nat.le_trans (by omega) hgt.below.size) (by simp [hn1, hn2, hn3]) (fun i v bs h => by
    rcases List.mem_append.1 (List.mem_of_getElem? h) with h' | h'
    · exact (HZ2.out _ h').1
    · exact (hz3 _ h').1)
  clear HK3 hgt hbkt hz3
  go_wp2_with fail
  refine HEN.mono ?_
  rintro e we ⟨rfl, hbe⟩
  have HBe : Hid (Below base w we) := HBt.out.trans hbe
  clear HEN hbe
  go_wp2
  go_ret
  exact ⟨rfl, by rw [← HBASE.out]; exact HBe.out⟩
end Go.Proofs.Ytphohkchffcjeaa
