/- The reader's message. -/
import Derived.Test.YtkjjgbaoicjbaabTakes
namespace Go.Proofs.Ytkjjgbaoicjbaab
open Go.RowKit

theorem num_lt {s : Key × Bool} {n : Nat} (_h : n ≤ 8) : num (takeS s n).1 < 256 ^ n := by
  have h1 := num_bound (takeS s n).1
  have h2 : (takeS s n).1.length ≤ n := by
    rw [takeS]; split
    · simp
    · simp; omega
  exact Nat.lt_of_lt_of_le h1 (Nat.pow_le_pow_right (by decide) h2)
/-- A message is read, short or not. -/
def msgS (s : Key × Bool) : Ms × (Key × Bool) :=
  let s1 := takeS s 8
  let s2 := takeS s1.2 1
  let s3 := takeS s2.2 2
  let s4 := takeS s3.2 2
  let s5 := takeS s4.2 (num s3.1)
  let s6 := takeS s5.2 (num s4.1)
  (⟨num s1.1, (num s2.1 : Int), s5.1, if num s2.1 = 1 then [] else s6.1, if num s2.1 = 1 then s6.1 else []⟩, s6.2)
structure MsgPost (B : Nat) (w : World) (g : Nat) (s : Key × Bool) (e : Ending) (w' : World) : Prop where
  is : ∃ y : Mt, e = .returned y.val ∧ y.m = (msgS s).1 ∧ NewMsg B w' y ∧ Rd B w' g (msgS s).2 ∧ Keep 56 B w w'
theorem Keep.setNew {T B : Nat} {w w1 : World} (h : Keep T B w w1) {b i : Nat} (hb : w.heap.size ≤ b) (hB : B ≤ b) (v : Value) : Keep T B w (w1.setCell ⟨b, i, none⟩ v) :=
  ⟨h.low.setCell hB v, fun k cur t z ht hk => by
    rw [heap_set_other]
    · exact h.typ k cur t z ht hk
    · have := (Array.getElem?_eq_some_iff.1 hk).1
      show k ≠ b
      omega⟩
theorem Keep.new {T B : Nat} {w w1 w2 : World} (h : Keep T B w w1) (hB : B ≤ w.heap.size) (hb : Below w1.heap.size w1 w2) : Keep T B w w2 := h.trans (Keep.of hb (Nat.le_trans hB h.low.size))
theorem MBox.keep {T B : Nat} {w w' : World} {b : Nat} {e : Mt} (h : MBox w b e) (hk : Keep T B w w') (hT : 38 ≠ T) : MBox w' b e := ⟨hk.typ _ _ _ _ hT h.row⟩

set_option maxHeartbeats 3200000 in
set_option maxRecDepth 100000 in
theorem message_any {B : Nat} {w : World} {g : Nat} {s : Key × Bool} (hr : Rd B w g s) (hB : B ≤ g) (hB2 : B ≤ w.heap.size) :
    Calls Try.prog 24 #[.pointer (some ⟨g, 0, none⟩)] w fun e w' => MsgPost B w g s e w' := by
  obtain ⟨W, hW⟩ : ∃ W, W = w.alloc (.cells #[.int .u64 0, .int .i64 0, .slice none 0 0, .slice none 0 0, .slice none 0 0] 38) := ⟨_, rfl⟩
  have HBW : Hid (Below w.heap.size w W) := by rw [hW]; exact below_new _ _
  have HY : Hid (MBox W w.heap.size zeroM) := by rw [hW]; exact ⟨heap_alloc_last _ _⟩
  have HN1 := number_any (n := 8) (hr.here hB2 HBW.out) hB (by decide)
  have hb1 := num_lt (s := s) (n := 8) (by decide)
  obtain ⟨s1, hs1⟩ : ∃ s1, s1 = takeS s 8 := ⟨_, rfl⟩
  rw [← hs1] at HN1 hb1
  have HS1 : Hid (s1 = takeS s 8) := hs1
  clear hr hs1
  go_enter Try.func24, Try.ntmps24
  go_wp2_with fail
  rw [← hW]
  clear hW
  refine HN1.mono ?_
  rintro r w1 ⟨rfl, hrd1, hk1⟩
  have HK1 : Hid (Keep 56 B w w1) := (Keep.of HBW.out hB2).trans hk1
  have HY1 : Hid (MBox w1 w.heap.size zeroM) := HY.out.keep hk1 (by decide)
  have HN2 := number_any (n := 1) hrd1 hB (by decide)
  have hb2 := num_lt (s := s1.2) (n := 1) (by decide)
  obtain ⟨s2, hs2⟩ : ∃ s2, s2 = takeS s1.2 1 := ⟨_, rfl⟩
  rw [← hs2] at HN2 hb2
  have HS2 : Hid (s2 = takeS s1.2 1) := hs2
  obtain ⟨N1, hN1⟩ : ∃ N1, N1 = num s1.1 := ⟨_, rfl⟩
  rw [← hN1] at hb1
  rw [← hN1]
  have HE1 : Hid (N1 = num s1.1) := hN1
  clear hrd1 hk1 hs2 hN1 HN1
  go_wp2_with fail
  refine HN2.mono ?_
  rintro r w2 ⟨rfl, hrd2, hk2⟩
  obtain ⟨N2, hN2⟩ : ∃ N2, N2 = num s2.1 := ⟨_, rfl⟩
  rw [← hN2] at hb2
  rw [← hN2]
  have HE2 : Hid (N2 = num s2.1) := hN2
  have HK2 : Hid (Keep 56 B w w2) := HK1.out.trans hk2
  have HY2 : Hid (MBox w2 w.heap.size zeroM) := HY1.out.keep hk2 (by decide)
  have HR2 : Hid (Rd B w2 g s2.2) := hrd2
  have hbb1 : N1 < 18446744073709551616 := by simpa using hb1
  have hbb2 : N2 < 256 := by simpa using hb2
  clear hrd2 hk2 hN2 HN2 HY1 HK1 hb1 hb2
  go_wp2_with fail
  obtain ⟨V, hV⟩ : ∃ V, V = w2.alloc (.cells #[.int .u64 (N1 : Int), .int .i64 (N2 : Int), .slice none 0 0, .slice none 0 0, .slice none 0 0] 38) := ⟨_, rfl⟩
  rw [← hV]
  have HBV : Hid (Below w2.heap.size w2 V) := by rw [hV]; exact below_new _ _
  have HX : Hid (MBox V w2.heap.size ⟨.slice none 0 0, .slice none 0 0, .slice none 0 0, ⟨N1, N2, [], [], []⟩⟩) := by rw [hV]; exact ⟨heap_alloc_last _ _⟩
  have HYV : Hid (MBox V w.heap.size zeroM) := HY2.out.here HBV.out
  have HKV : Hid (Keep 56 B w V) := HK2.out.new hB2 HBV.out
  have hB3 : B ≤ w2.heap.size := Nat.le_trans hB2 HK2.out.low.size
  have hwb : w.heap.size ≤ w2.heap.size := (show Below _ _ _ from HK2.out.low).size
  have hne : w.heap.size ≠ w2.heap.size := Nat.ne_of_lt HY2.out.lt
  obtain ⟨b1, hb1⟩ : ∃ b1, b1 = w2.heap.size := ⟨_, rfl⟩
  have HN3 := number_any (n := 2) (HR2.out.here hB3 HBV.out) hB (by decide)
  rw [← hb1] at HX hne hwb hB3
  rw [← hb1]
  have hc3 := num_lt (s := s2.2) (n := 2) (by decide)
  obtain ⟨s3, hs3⟩ : ∃ s3, s3 = takeS s2.2 2 := ⟨_, rfl⟩
  rw [← hs3] at HN3 hc3
  have HS3 : Hid (s3 = takeS s2.2 2) := hs3
  clear hV HY2 HK2 HR2 hs3 hb1 HBV
  refine HN3.mono ?_
  rintro r w3 ⟨rfl, hrd3, hk3⟩
  have HK3 : Hid (Keep 56 B w w3) := HKV.out.trans hk3
  have HY3 : Hid (MBox w3 w.heap.size zeroM) := HYV.out.keep hk3 (by decide)
  have HX3 : Hid (MBox w3 b1 ⟨.slice none 0 0, .slice none 0 0, .slice none 0 0, ⟨N1, N2, [], [], []⟩⟩) := HX.out.keep hk3 (by decide)
  have HN4 := number_any (n := 2) hrd3 hB (by decide)
  have hc4 := num_lt (s := s3.2) (n := 2) (by decide)
  obtain ⟨s4, hs4⟩ : ∃ s4, s4 = takeS s3.2 2 := ⟨_, rfl⟩
  rw [← hs4] at HN4 hc4
  have HS4 : Hid (s4 = takeS s3.2 2) := hs4
  obtain ⟨N3, hN3⟩ : ∃ N3, N3 = num s3.1 := ⟨_, rfl⟩
  rw [← hN3] at hc3
  rw [← hN3]
  have HE3 : Hid (N3 = num s3.1) := hN3
  have hcc3 : N3 < 65536 := by simpa using hc3
  clear hrd3 hk3 hs4 hN3 HN3 HKV HYV HX hc3
  go_wp2_with fail
  refine HN4.mono ?_
  rintro r w4 ⟨rfl, hrd4, hk4⟩
  have HK4 : Hid (Keep 56 B w w4) := HK3.out.trans hk4
  have HY4 : Hid (MBox w4 w.heap.size zeroM) := HY3.out.keep hk4 (by decide)
  have HX4 : Hid (MBox w4 b1 ⟨.slice none 0 0, .slice none 0 0, .slice none 0 0, ⟨N1, N2, [], [], []⟩⟩) := HX3.out.keep hk4 (by decide)
  obtain ⟨N4, hN4⟩ : ∃ N4, N4 = num s4.1 := ⟨_, rfl⟩
  rw [← hN4] at hc4
  rw [← hN4]
  have HE4 : Hid (N4 = num s4.1) := hN4
  have hcc4 : N4 < 65536 := by simpa using hc4
  have HT5 := take_any (n := N3) hrd4 hB (by omega)
  obtain ⟨s5, hs5⟩ : ∃ s5, s5 = takeS s4.2 N3 := ⟨_, rfl⟩
  have HS5 : Hid (s5 = takeS s4.2 N3) := hs5
  clear hrd4 hk4 hN4 HN4 HK3 HY3 HX3 hc4
  go_wp2_with fail
  refine HT5.mono ?_
  rintro r w5 ⟨u5, rfl, hu5, hrd5, hk5⟩
  rw [← hs5] at hu5 hrd5
  have HK5 : Hid (Keep 56 B w w5) := HK4.out.trans hk5
  have HY5 : Hid (MBox w5 w.heap.size zeroM) := HY4.out.keep hk5 (by decide)
  have HX5 : Hid (MBox w5 b1 ⟨.slice none 0 0, .slice none 0 0, .slice none 0 0, ⟨N1, N2, [], [], []⟩⟩) := HX4.out.keep hk5 (by decide)
  have hB5 : B ≤ w5.heap.size := Nat.le_trans hB2 HK5.out.low.size
  have HR5 : Hid (Rd B w5 g s5.2) := hrd5
  have HA6 := anewG_any (hu5.at hB5)
  obtain ⟨a5, c5, e5⟩ := hu5.form
  subst e5
  clear hu5 hrd5 hk5 HT5 HK4 HY4 HX4 hs5
  go_wp2_with fail
  refine HA6.mono ?_
  rintro r w6 ⟨u6, rfl, hu6, hb6⟩
  obtain ⟨a6, c6, e6⟩ := hu6.at.in.form
  subst e6
  have HK6 : Hid (Keep 56 B w w6) := HK5.out.new hB2 hb6
  have HY6 : Hid (MBox w6 w.heap.size zeroM) := HY5.out.here hb6
  have HX6 : Hid (MBox w6 b1 ⟨.slice none 0 0, .slice none 0 0, .slice none 0 0, ⟨N1, N2, [], [], []⟩⟩) := HX5.out.here hb6
  have HR6 : Hid (Rd B w6 g s5.2) := HR5.out.here hB5 hb6
  have HU6 : Hid (NewKey B w6 (.slice a6 s5.1.length c6) s5.1) := hu6.mono hB5
  obtain ⟨x0, x1, x2, x3, x4⟩ := HX6.out.cells
  have o2 := HX6.out.open 2
  simp only at x0 x1 x2 x3 x4
  clear hu6 hb6 HA6 HK5 HY5 HX5 HR5
  obtain ⟨S6, hS⟩ : ∃ S6, S6 = w6.setCell ⟨b1, 2, none⟩ (.slice a6 s5.1.length c6) := ⟨_, rfl⟩
  have HKS : Hid (Keep 56 B w S6) := by rw [hS]; exact HK6.out.setNew hwb hB3 _
  have HYS : Hid (MBox S6 w.heap.size zeroM) := by rw [hS]; exact ⟨by rw [heap_set_other _ hne]; exact HY6.out.row⟩
  have HXS : Hid (MBox S6 b1 ⟨.slice a6 s5.1.length c6, .slice none 0 0, .slice none 0 0, ⟨N1, (N2 : Int), s5.1, [], []⟩⟩) := by rw [hS]; exact ⟨heap_set_same _ HX6.out.row⟩
  have hkm : Keep 38 B w6 S6 := by rw [hS]; exact keep_set HX6.out.row hB3 _
  have HRS : Hid (Rd B S6 g s5.2) := HR6.out.keep hkm (by decide)
  have HUS : Hid (NewKey B S6 (.slice a6 s5.1.length c6) s5.1) := HU6.out.keep hkm (by decide)
  have hne' : b1 ≠ w.heap.size := hne.symm
  clear hkm HK6 HY6 HX6 HR6 HU6
  by_cases hkd : N2 = 1
  · subst hkd
    have HT7 := take_any (n := N4) HRS.out hB (by omega)
    obtain ⟨s6, hs6⟩ : ∃ s6, s6 = takeS s5.2 N4 := ⟨_, rfl⟩
    have HS6 : Hid (s6 = takeS s5.2 N4) := hs6
    go_wp2_with fail
    rw [← hS]
    clear hS
    refine HT7.mono ?_
    rintro r w7 ⟨u7, rfl, hu7, hrd7, hk7⟩
    rw [← hs6] at hu7 hrd7
    have HK7 : Hid (Keep 56 B w w7) := HKS.out.trans hk7
    have HY7 : Hid (MBox w7 w.heap.size zeroM) := HYS.out.keep hk7 (by decide)
    have HX7 : Hid (MBox w7 b1 ⟨.slice a6 s5.1.length c6, .slice none 0 0, .slice none 0 0, ⟨N1, ((1 : Nat) : Int), s5.1, [], []⟩⟩) := HXS.out.keep hk7 (by decide)
    have HU7 : Hid (NewKey B w7 (.slice a6 s5.1.length c6) s5.1) := HUS.out.keep hk7 (by decide)
    have hB7 : B ≤ w7.heap.size := Nat.le_trans hB2 HK7.out.low.size
    have HR7 : Hid (Rd B w7 g s6.2) := hrd7
    have HA8 := anewG_any (hu7.at hB7)
    obtain ⟨a7, c7, e7⟩ := hu7.form
    subst e7
    clear hu7 hrd7 hk7 HT7 HKS HYS HXS HUS HRS hs6 x0 x1 x2 x3 x4 o2
    go_wp2_with fail
    refine HA8.mono ?_
    rintro r w8 ⟨u8, rfl, hu8, hb8⟩
    obtain ⟨a8, c8, e8⟩ := hu8.at.in.form
    subst e8
    have HK8 : Hid (Keep 56 B w w8) := HK7.out.new hB2 hb8
    have HY8 : Hid (MBox w8 w.heap.size zeroM) := HY7.out.here hb8
    have HX8 : Hid (MBox w8 b1 ⟨.slice a6 s5.1.length c6, .slice none 0 0, .slice none 0 0, ⟨N1, ((1 : Nat) : Int), s5.1, [], []⟩⟩) := HX7.out.here hb8
    have HR8 : Hid (Rd B w8 g s6.2) := HR7.out.here hB7 hb8
    have HU8 : Hid (NewKey B w8 (.slice a6 s5.1.length c6) s5.1) := HU7.out.here hb8
    have HV8 : Hid (NewKey B w8 (.slice a8 s6.1.length c8) s6.1) := hu8.mono hB7
    obtain ⟨x0, x1, x2, x3, x4⟩ := HX8.out.cells
    have o2 := HX8.out.open 4
    obtain ⟨z0, z1, z2, z3, z4⟩ := HY8.out.cells
    have p0 := HY8.out.open 0
    have p1 := HY8.out.open 1
    have p2 := HY8.out.open 2
    have p3 := HY8.out.open 3
    have p4 := HY8.out.open 4
    simp only at x0 x1 x2 x3 x4
    obtain ⟨S8, hS8⟩ : ∃ S8, S8 = w8.setCell ⟨b1, 4, none⟩ (.slice a8 s6.1.length c8) := ⟨_, rfl⟩
    have HY9 : Hid (MBox S8 w.heap.size zeroM) := by rw [hS8]; exact ⟨by rw [heap_set_other _ hne]; exact HY8.out.row⟩
    have HKM : Hid (Keep 38 B w8 S8) := by rw [hS8]; exact keep_set HX8.out.row hB3 _
    have HP5 := put5_keep (B := B) ⟨.slice a6 s5.1.length c6, .slice none 0 0, .slice a8 s6.1.length c8, ⟨N1, ((1 : Nat) : Int), s5.1, [], s6.1⟩⟩ HY9.out hB2
    have HKW : Hid (Keep 56 B w (put5 S8 w.heap.size ⟨.slice a6 s5.1.length c6, .slice none 0 0, .slice a8 s6.1.length c8, ⟨N1, ((1 : Nat) : Int), s5.1, [], s6.1⟩⟩)) := by
      have h0 : Keep 56 B w S8 := by rw [hS8]; exact HK8.out.setNew hwb hB3 _
      exact ((((h0.setNew (Nat.le_refl _) hB2 _).setNew (Nat.le_refl _) hB2 _).setNew (Nat.le_refl _) hB2 _).setNew (Nat.le_refl _) hB2 _).setNew (Nat.le_refl _) hB2 _
    have HFI : Hid (MsgPost B w g s (.returned (Mt.val ⟨.slice a6 s5.1.length c6, .slice none 0 0, .slice a8 s6.1.length c8, ⟨N1, ((1 : Nat) : Int), s5.1, [], s6.1⟩⟩)) (put5 S8 w.heap.size ⟨.slice a6 s5.1.length c6, .slice none 0 0, .slice a8 s6.1.length c8, ⟨N1, ((1 : Nat) : Int), s5.1, [], s6.1⟩⟩)) := by
      refine ⟨_, rfl, ?_, ⟨?_, ?_, ?_, hbb1, ?_⟩, ?_, HKW.out⟩
      · simp only [msgS]; rw [← HS1.out, ← HS2.out, ← HS3.out, ← HS4.out, ← HE3.out, ← HS5.out, ← HE4.out, ← HS6.out, ← HE2.out, ← HE1.out]; simp
      · exact (HU8.out.keep HKM.out (by decide)).keep HP5 (by decide)
      · exact NewKey.nil _ _
      · exact (HV8.out.keep HKM.out (by decide)).keep HP5 (by decide)
      · simp only; omega
      · have := (HR8.out.keep HKM.out (by decide)).keep HP5 (by decide)
        simp only [msgS]; rw [← HS1.out, ← HS2.out, ← HS3.out, ← HS4.out, ← HE3.out, ← HS5.out, ← HE4.out, ← HS6.out]; exact this
    clear hu8 hb8 HA8 HK7 HY7 HX7 HR7 HU7 HP5
    go_wp2_with fail
    rw [← hS8]
    exact bodyPost_ret (ret_msg rfl rfl (put5_box (e := ⟨.slice a6 s5.1.length c6, .slice none 0 0, .slice a8 s6.1.length c8, ⟨N1, ((1 : Nat) : Int), s5.1, [], s6.1⟩⟩) _ HY9.out)) rfl HFI.out
  · have hk2 : ((N2 : Int) == 1) = false := by rw [beq_eq_false_iff_ne]; omega
    have HT7 := take_any (n := N4) HRS.out hB (by omega)
    obtain ⟨s6, hs6⟩ : ∃ s6, s6 = takeS s5.2 N4 := ⟨_, rfl⟩
    have HS6 : Hid (s6 = takeS s5.2 N4) := hs6
    go_wp2_with fail
    rw [← hS]
    clear hS
    refine HT7.mono ?_
    rintro r w7 ⟨u7, rfl, hu7, hrd7, hk7⟩
    rw [← hs6] at hu7 hrd7
    have HK7 : Hid (Keep 56 B w w7) := HKS.out.trans hk7
    have HY7 : Hid (MBox w7 w.heap.size zeroM) := HYS.out.keep hk7 (by decide)
    have HX7 : Hid (MBox w7 b1 ⟨.slice a6 s5.1.length c6, .slice none 0 0, .slice none 0 0, ⟨N1, ((N2 : Nat) : Int), s5.1, [], []⟩⟩) := HXS.out.keep hk7 (by decide)
    have HU7 : Hid (NewKey B w7 (.slice a6 s5.1.length c6) s5.1) := HUS.out.keep hk7 (by decide)
    have hB7 : B ≤ w7.heap.size := Nat.le_trans hB2 HK7.out.low.size
    have HR7 : Hid (Rd B w7 g s6.2) := hrd7
    have HA8 := anewG_any (hu7.at hB7)
    obtain ⟨a7, c7, e7⟩ := hu7.form
    subst e7
    clear hu7 hrd7 hk7 HT7 HKS HYS HXS HUS HRS hs6 x0 x1 x2 x3 x4 o2
    go_wp2_with fail
    refine HA8.mono ?_
    rintro r w8 ⟨u8, rfl, hu8, hb8⟩
    obtain ⟨a8, c8, e8⟩ := hu8.at.in.form
    subst e8
    have HK8 : Hid (Keep 56 B w w8) := HK7.out.new hB2 hb8
    have HY8 : Hid (MBox w8 w.heap.size zeroM) := HY7.out.here hb8
    have HX8 : Hid (MBox w8 b1 ⟨.slice a6 s5.1.length c6, .slice none 0 0, .slice none 0 0, ⟨N1, ((N2 : Nat) : Int), s5.1, [], []⟩⟩) := HX7.out.here hb8
    have HR8 : Hid (Rd B w8 g s6.2) := HR7.out.here hB7 hb8
    have HU8 : Hid (NewKey B w8 (.slice a6 s5.1.length c6) s5.1) := HU7.out.here hb8
    have HV8 : Hid (NewKey B w8 (.slice a8 s6.1.length c8) s6.1) := hu8.mono hB7
    obtain ⟨x0, x1, x2, x3, x4⟩ := HX8.out.cells
    have o2 := HX8.out.open 3
    obtain ⟨z0, z1, z2, z3, z4⟩ := HY8.out.cells
    have p0 := HY8.out.open 0
    have p1 := HY8.out.open 1
    have p2 := HY8.out.open 2
    have p3 := HY8.out.open 3
    have p4 := HY8.out.open 4
    simp only at x0 x1 x2 x3 x4
    obtain ⟨S8, hS8⟩ : ∃ S8, S8 = w8.setCell ⟨b1, 3, none⟩ (.slice a8 s6.1.length c8) := ⟨_, rfl⟩
    have HY9 : Hid (MBox S8 w.heap.size zeroM) := by rw [hS8]; exact ⟨by rw [heap_set_other _ hne]; exact HY8.out.row⟩
    have HKM : Hid (Keep 38 B w8 S8) := by rw [hS8]; exact keep_set HX8.out.row hB3 _
    have HP5 := put5_keep (B := B) ⟨.slice a6 s5.1.length c6, .slice a8 s6.1.length c8, .slice none 0 0, ⟨N1, (N2 : Int), s5.1, s6.1, []⟩⟩ HY9.out hB2
    have HKW : Hid (Keep 56 B w (put5 S8 w.heap.size ⟨.slice a6 s5.1.length c6, .slice a8 s6.1.length c8, .slice none 0 0, ⟨N1, (N2 : Int), s5.1, s6.1, []⟩⟩)) := by
      have h0 : Keep 56 B w S8 := by rw [hS8]; exact HK8.out.setNew hwb hB3 _
      exact ((((h0.setNew (Nat.le_refl _) hB2 _).setNew (Nat.le_refl _) hB2 _).setNew (Nat.le_refl _) hB2 _).setNew (Nat.le_refl _) hB2 _).setNew (Nat.le_refl _) hB2 _
    have HFI : Hid (MsgPost B w g s (.returned (Mt.val ⟨.slice a6 s5.1.length c6, .slice a8 s6.1.length c8, .slice none 0 0, ⟨N1, (N2 : Int), s5.1, s6.1, []⟩⟩)) (put5 S8 w.heap.size ⟨.slice a6 s5.1.length c6, .slice a8 s6.1.length c8, .slice none 0 0, ⟨N1, (N2 : Int), s5.1, s6.1, []⟩⟩)) := by
      refine ⟨_, rfl, ?_, ⟨?_, ?_, ?_, hbb1, ?_⟩, ?_, HKW.out⟩
      · simp only [msgS]; rw [← HS1.out, ← HS2.out, ← HS3.out, ← HS4.out, ← HE3.out, ← HS5.out, ← HE4.out, ← HS6.out, ← HE2.out, ← HE1.out]; simp [hkd]
      · exact (HU8.out.keep HKM.out (by decide)).keep HP5 (by decide)
      · exact (HV8.out.keep HKM.out (by decide)).keep HP5 (by decide)
      · exact NewKey.nil _ _
      · simp only; omega
      · have := (HR8.out.keep HKM.out (by decide)).keep HP5 (by decide)
        simp only [msgS]; rw [← HS1.out, ← HS2.out, ← HS3.out, ← HS4.out, ← HE3.out, ← HS5.out, ← HE4.out, ← HS6.out]; exact this
    clear hu8 hb8 HA8 HK7 HY7 HX7 HR7 HU7 HP5
    go_wp2_with fail
    rw [← hS8]
    exact bodyPost_ret (ret_msg rfl rfl (put5_box (e := ⟨.slice a6 s5.1.length c6, .slice a8 s6.1.length c8, .slice none 0 0, ⟨N1, (N2 : Int), s5.1, s6.1, []⟩⟩) _ HY9.out)) rfl HFI.out
end Go.Proofs.Ytkjjgbaoicjbaab
