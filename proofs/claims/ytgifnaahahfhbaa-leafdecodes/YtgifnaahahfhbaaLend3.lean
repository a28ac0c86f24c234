/- lend: the walk. -/
import Derived.Test.YtgifnaahahfhbaaLend2
namespace Go.Proofs.Ytgifnaahahfhbaa
open Go.RowKit

theorem newOne (w : World) (x : UInt8) : NewKey w.heap.size (w.alloc (.cells #[.int .u8 (x.toNat : Int)] 5)) (.slice (some ⟨w.heap.size, 0, none⟩) 1 1) [x] :=
  ⟨⟨rfl, .inr ⟨w.heap.size, 1, #[.int .u8 (x.toNat : Int)], rfl, Nat.le_refl _, heap_alloc_last w _, Nat.le_refl _, by unfold maxLen; omega, rfl, rfl⟩⟩, by simp⟩
theorem infoL : (Try.prog.info? 33).map (·.size) = some 3 := by kernel_rfl
theorem ret_loan {fn : Func} {p : Tmp} (h : fn.results = #[.cell p 33]) {tmps : Array Value} {w : World} {b : Nat} {x y z : Value} (hp : tmps.getD p undef = .pointer (some ⟨b, 0, none⟩)) (hB : LBox w b x y z) :
    (results fn tmps).run Try.prog w = .ok (.agg #[x, y, z]) w :=
  results_cell_row h tmps w b 33 #[x, y, z] (0, 0) _ hp hB.row Try.underlying33 rfl infoL
theorem LBox.put {w : World} {b : Nat} {x y z : Value} (h : LBox w b x y z) (x' y' z' : Value) : LBox (((w.setCell ⟨b, 0, none⟩ x').setCell ⟨b, 1, none⟩ y').setCell ⟨b, 2, none⟩ z') b x' y' z' := ⟨heap_set_same z' (heap_set_same y' (heap_set_same x' h.row))⟩
theorem LBox.keep3 {B : Nat} {w : World} {b : Nat} {x y z : Value} (h : LBox w b x y z) (hB : B ≤ b) (x' y' z' : Value) : Keep 33 B w (((w.setCell ⟨b, 0, none⟩ x').setCell ⟨b, 1, none⟩ y').setCell ⟨b, 2, none⟩ z') :=
  ((keep_set h.row hB x').trans (keep_set (heap_set_same x' h.row) hB y')).trans (keep_set (heap_set_same y' (heap_set_same x' h.row)) hB z')
theorem own_keep {w w' : World} {base n s B : Nat} {T T' : TypeId} {v : Value} {xs : List Value} (h : w.ownsRow base T' s v n xs) (hk : Keep T B w w') (hT : T' ≠ T) : w'.ownsRow base T' s v n xs :=
  own_same h fun k hk2 _ => by
    obtain ⟨_, _, cur, hc⟩ := own_type h k hk2
    rw [hc]; exact hk.typ _ _ _ _ hT hc
theorem own_shape {w : World} {base n s : Nat} {T : TypeId} {v : Value} {xs : List Value} (h : w.ownsRow base T s v n xs) : ∃ a m c, v = .slice a m c := by
  obtain ⟨_, ⟨e, _⟩ | ⟨g, cap, cur, e, _⟩⟩ := h
  · exact ⟨_, _, _, e⟩
  · exact ⟨_, _, _, e⟩
theorem cell_drew (w : World) (a : Addr) : w.drew.cell? a = w.cell? a := rfl
theorem wrap_less2 {j : Nat} (h : j ≤ 4294967296) : IntKind.i64.wrap (j : Int) = (j : Int) := by
  have : (j : Int) ≤ 4294967296 := by omega
  simp [IntKind.wrap, IntKind.bits, IntKind.signed]; omega

set_option maxHeartbeats 1600000 in
set_option maxRecDepth 100000 in
theorem lend_any {w : World} {v : Value} {L : List It} (hL : ListAt w.heap.size w v L) (hw : weightE (L.map It.e) ≤ 4294967296) :
    Calls Try.prog 12 #[v] w fun e w' => ∃ v', e = .returned v' ∧ LoanAt w.heap.size w' v' (L.map It.e) ∧ Below w.heap.size w w' := by
  have hwl := weightE_length (L.map It.e)
  rw [List.length_map] at hwl
  obtain ⟨i0, hi, hz0, hz1, hz2⟩ := infoE'
  obtain ⟨i7, hi7, hz70, hz71, hz72⟩ := infoBytes'
  obtain ⟨a, c, rfl⟩ := hL.form
  have HL : Hid (ListAt w.heap.size w (.slice a L.length c) L) := hL
  have HWT : Hid (weightE (L.map It.e) ≤ 4294967296) := hw
  have hll : L.length ≤ 4294967296 := by omega
  clear hL hw hwl
  obtain ⟨W1, hW1⟩ : ∃ W1, W1 = w.alloc (.cells #[.slice none 0 0, .slice none 0 0, .slice none 0 0] 33) := ⟨_, rfl⟩
  have HBW : Hid (Below w.heap.size w W1) := by rw [hW1]; exact below_new _ _
  have HX1 : Hid (LBox W1 w.heap.size (.slice none 0 0) (.slice none 0 0) (.slice none 0 0)) := by rw [hW1]; exact ⟨heap_alloc_last _ _⟩
  have hs1 : W1.heap.size = w.heap.size + 1 := by rw [hW1]; simp
  have HWA : Hid (w.alloc (.cells #[.slice none 0 0, .slice none 0 0, .slice none 0 0] 33) = W1) := hW1.symm
  clear hW1
  go_enter Try.func12, Try.ntmps12
  go_wp2_with (at_make; go_loud (
     rw [HWA.out]
     refine wpList_make_full _ rfl _ _ 25 rfl w.heap.size 47 i0 (.agg #[.slice none 0 0, .slice none 0 0]) 2 Try.underlying25 hi hz0 hz1 _ _ _ _ (L.length + 2) rfl rfl (by omega) (by omega) (by rw [hz2]; omega) (by unfold maxLen; omega) HBW.out.size ?_
     intro w2 hown2 hg2
     rw [madeEnts] at hown2
     have HR2 : Hid (RowAt w2 (w.heap.size + 1) ((L.length + 2) * 2) (List.replicate (L.length + 2) noIt)) := by
       have h1 : w2.ownsRow w.heap.size 47 2 (.slice (some ⟨W1.heap.size, 0, none⟩) (List.replicate (L.length + 2) noIt).length (List.replicate (L.length + 2) noIt).length) (List.replicate (L.length + 2) noIt).length (flat (List.replicate (L.length + 2) noIt)) := by rw [List.length_replicate]; exact hown2
       rcases own_row h1 with ⟨e, _⟩ | ⟨g, c', e, _, _, _, hr⟩
       · cases e
       · cases e; rw [List.length_replicate, hs1] at hr; exact hr
     have HB2 : Hid (Below W1.heap.size W1 w2) := (Below.refl _ _).grown hg2 (Nat.le_refl _) (fun k h => by cases h)
     have HX2 : Hid (LBox w2 w.heap.size (.slice none 0 0) (.slice none 0 0) (.slice none 0 0)) := HX1.out.here HB2.out
     obtain ⟨k0, k1, k2⟩ := HX2.out.cells
     obtain ⟨f0, f1, f2⟩ := HX2.out.open
     clear hown2 hg2))
  obtain ⟨w3, hw3⟩ : ∃ w3, w3 = w2.alloc (.cells #[.slice (some ⟨w.heap.size + 1, 0, none⟩) (L.length + 2) (L.length + 2), .slice none 0 0, .slice none 0 0] 33) := ⟨_, rfl⟩
  rw [← hw3]
  have hlt2 : w.heap.size < w2.heap.size := Nat.lt_of_lt_of_le (by omega) HB2.out.size
  have HLE : Hid (Lending w.heap.size w.heap.size w2.heap.size (w.heap.size + 1) w w3 L 0 [] (.slice none 0 0) (.slice none 0 0)) := by
    have hb3 : Below w2.heap.size w2 w3 := by rw [hw3]; exact below_new _ _
    refine ⟨⟨HX2.out.here hb3, ⟨by rw [hw3]; exact heap_alloc_last _ _⟩, by omega, by omega, by omega, HR2.out.here hb3, World.ownsRow_nil _ _ _ _, World.ownsRow_nil _ _ _ _, fun g h => by cases h⟩, by simp, rfl, fun z hz => by simp at hz, ?_⟩
    exact (HBW.out.trans (HB2.out.mono HBW.out.size)).trans (hb3.mono (by omega))
  clear hw3 HR2 HX2 k0 k1 k2 f0 f1 f2 HX1 HWA HB2
  obtain ⟨b, hb⟩ : ∃ b, b = w2.heap.size := ⟨_, rfl⟩
  rw [← hb] at HLE ⊢
  have hwb : w.heap.size < b := by omega
  clear hb hlt2
  go_loopw [4] (fun i wx => ∃ (m : Nat) (Z : List Ln) (vk vv : Value), m ≤ L.length ∧ i = .int .i64 m ∧ Lending w.heap.size w.heap.size b (w.heap.size + 1) w wx L m Z vk vv) (fun i _ => L.length - (intOf i).toNat)
  case atStart => exact ⟨0, [], _, _, by omega, rfl, HLE.out⟩
  case round =>
    obtain ⟨m, Z, vk, vv, hm, rfl, hle⟩ := hrel
    have HI : Hid _ := hle
    clear hle HLE
    by_cases hlt : m < L.length
    · have hz : (m : Int) < (L.length : Int) := by omega
      obtain ⟨e, he⟩ : ∃ e, L[m]? = some e := ⟨_, List.getElem?_eq_getElem hlt⟩
      have HEM : Hid (L[m]? = some e) := he
      obtain ⟨g, off, c', e1, k0, k1⟩ := (HL.out.here HI.out.low).cells m e he
      cases e1
      have hwe : 1 + e.e.k.length + e.e.v.length ≤ 4294967296 := Nat.le_trans (weightE_mem (List.mem_map_of_mem (List.mem_of_getElem? he))) HWT.out
      have heo := HL.out.ok e (List.mem_of_getElem? he)
      obtain ⟨a1, c1, f1⟩ := heo.k.form
      obtain ⟨a2, c2, f2⟩ := heo.v.form
      have HK1 : Hid (KeyAt wr (.slice a1 e.e.k.length c1) e.e.k) := by rw [← f1]; exact (heo.here HI.out.low).k.at (Nat.le_refl _)
      have HK2 : Hid (KeyAt wr (.slice a2 e.e.v.length c2) e.e.v) := by rw [← f2]; exact (heo.here HI.out.low).v.at (Nat.le_refl _)
      rw [f1] at k0
      clear heo he
      go_wp2_with fail
      refine (marked_any HK1.out (by omega)).mono ?_
      rintro e1 w4 ⟨x1, rfl, hx1, hb4⟩
      have hwx := HI.out.low.size
      have HB4 : Hid (Below w.heap.size w w4) := HI.out.low.trans (hb4.mono hwx)
      obtain ⟨ak, ck, q1⟩ := hx1.in.form
      rw [show (e.e.k ++ ends2).length = e.e.k.length + 2 from by simp [ends2]] at q1
      subst q1
      have HN1 : Hid (NewKey w.heap.size w4 (.slice ak (e.e.k.length + 2) ck) (e.e.k ++ ends2)) := hx1.mono hwx
      have HLE4 : Hid (Lent w.heap.size w.heap.size b (w.heap.size + 1) (L.length + 2) w4 (Z.map Ln.it ++ List.replicate (L.length + 2 - m) noIt) (Z.map Ln.kv) (Z.map Ln.vv) vk vv) := HI.out.lent.here hb4
      have HOK4 : Hid (∀ z ∈ Z, z.Ok w.heap.size w4) := fun z hz => (HI.out.ok z hz).here hb4
      have HK24 : Hid (KeyAt w4 (.slice a2 e.e.v.length c2) e.e.v) := HK2.out.here hb4
      obtain ⟨g', off', c'', e1, _, k1'⟩ := (HL.out.here HB4.out).cells m e HEM.out
      cases e1
      rw [f2] at k1'
      have HIS : Hid (Z.map Ln.e = (L.map It.e).take m) := HI.out.is
      have HZL : Hid (Z.length = m) := HI.out.len
      clear HI HK1 HK2 hb4 hx1 k0 k1 f1 f2
      go_wp2_with fail
      refine (marked_any HK24.out (by omega)).mono ?_
      rintro e1 w5 ⟨x2, rfl, hx2, hb5⟩
      have hw4 := HB4.out.size
      have HB5 : Hid (Below w.heap.size w w5) := HB4.out.trans (hb5.mono hw4)
      obtain ⟨av, cv, q1⟩ := hx2.in.form
      rw [show (e.e.v ++ ends2).length = e.e.v.length + 2 from by simp [ends2]] at q1
      subst q1
      have HN2 : Hid (NewKey w.heap.size w5 (.slice av (e.e.v.length + 2) cv) (e.e.v ++ ends2)) := hx2.mono hw4
      have HN15 : Hid (NewKey w.heap.size w5 (.slice ak (e.e.k.length + 2) ck) (e.e.k ++ ends2)) := HN1.out.here hb5
      have HLE5 : Hid (Lent w.heap.size w.heap.size b (w.heap.size + 1) (L.length + 2) w5 (Z.map Ln.it ++ List.replicate (L.length + 2 - m) noIt) (Z.map Ln.kv) (Z.map Ln.vv) vk vv) := HLE4.out.here hb5
      have HOK5 : Hid (∀ z ∈ Z, z.Ok w.heap.size w5) := fun z hz => (HOK4.out z hz).here hb5
      clear HK24 hx2 hb5 HLE4 HOK4 HN1 HB4 k1' hwx hw4
      have hw5 := HB5.out.size
      have HZL1 : Hid ((Z.map Ln.kv).length = m) := by rw [List.length_map]; exact HZL.out
      have HZL2 : Hid ((Z.map Ln.vv).length = m) := by rw [List.length_map]; exact HZL.out
      -- the keys' list
      obtain ⟨wA, hwA⟩ : ∃ wA, wA = w5.alloc (.cells #[.slice ak (e.e.k.length + 2) ck] 39) := ⟨_, rfl⟩
      have HBA : Hid (Below w5.heap.size w5 wA) := by rw [hwA]; exact below_new _ _
      have HWA : Hid (w5.alloc (.cells #[.slice ak (e.e.k.length + 2) ck] 39) = wA) := hwA.symm
      have HNEW : Hid (∀ (j : Nat) (u : Value), [Value.slice ak (e.e.k.length + 2) ck][j]? = some u → wA.cell? ((⟨w5.heap.size, 0, none⟩ : Addr).add j) = some u) := by rw [hwA]; exact one_src w5 _
      have HKO : Hid (wA.ownsRow w.heap.size 39 1 vk m (Z.map Ln.kv)) := by have := (HLE5.out.here HBA.out).keys; rw [HZL1.out] at this; exact this
      obtain ⟨_, k1, _⟩ := HLE5.out.box.cells
      clear hwA
      go_upto_region 8 with (at_builtin; go_loud (
        rw [HWA.out]
        refine wpList_append_lies _ rfl _ _ 28 rfl w.heap.size 39 i7 (.slice none 0 0) 1 24 Try.underlying28 hi7 hz70 hz71 hz72 rfl (by decide) vk m (Z.map Ln.kv) rfl HKO.out ⟨w5.heap.size, 0, none⟩ 1 1 [.slice ak (e.e.k.length + 2) ck] rfl rfl HNEW.out (slice_one _ _ _) (by decide) (by unfold maxLen; omega) (by omega) (Nat.le_trans hw5 HBA.out.size) _ rfl ?_
        intro g6 c6 w6 ho6 hg6 hat6 _
        have HO6 : Hid _ := ho6
        have HG6 : Hid (wA.grownBy w6 vk.ownBlock) := hg6
        have HAT6 : Hid (vk.ownBlock = some g6 ∨ g6 = wA.heap.size) := hat6
        have hb6 := HLE5.out.mid (.inl rfl) HBA.out hg6
        obtain ⟨q0, q1, q2⟩ := hb6.cells
        obtain ⟨f0, f1, f2⟩ := hb6.open
        clear ho6 hg6 hat6 hb6))
      obtain ⟨w7, hw7⟩ : ∃ w7, w7 = w6.setCell ⟨b, 1, none⟩ (.slice (some ⟨g6, 0, none⟩) (m + 1) c6) := ⟨_, rfl⟩
      rw [← hw7]
      have hst := HLE5.out.keyed HBA.out HG6.out HAT6.out (by rw [HZL1.out]; exact HO6.out) hw5
      rw [← hw7] at hst
      obtain ⟨hle7, ht7⟩ := hst
      have HLE7 : Hid _ := hle7
      have HB7 : Hid (Below w.heap.size w w7) := HB5.out.trans ht7.low
      have HN17 : Hid (NewKey w.heap.size w7 (.slice ak (e.e.k.length + 2) ck) (e.e.k ++ ends2)) := HN15.out.touch ht7
      have HN27 : Hid (NewKey w.heap.size w7 (.slice av (e.e.v.length + 2) cv) (e.e.v ++ ends2)) := HN2.out.touch ht7
      have HOK7 : Hid (∀ z ∈ Z, z.Ok w.heap.size w7) := fun z hz => (HOK5.out z hz).touch ht7
      obtain ⟨_, _, k2⟩ := hle7.box.cells
      clear hw7 ht7 hle7 HN15 HN2 HOK5 HO6 HG6 HAT6 HKO HNEW HWA HBA HLE5 HB5 hw5 q0 q1 q2 f0 f1 f2 k1
      have hw7 := HB7.out.size
      -- the values' list
      obtain ⟨wB, hwB⟩ : ∃ wB, wB = w7.alloc (.cells #[.slice av (e.e.v.length + 2) cv] 39) := ⟨_, rfl⟩
      have HBB : Hid (Below w7.heap.size w7 wB) := by rw [hwB]; exact below_new _ _
      have HWB : Hid (w7.alloc (.cells #[.slice av (e.e.v.length + 2) cv] 39) = wB) := hwB.symm
      have HNEB : Hid (∀ (j : Nat) (u : Value), [Value.slice av (e.e.v.length + 2) cv][j]? = some u → wB.cell? ((⟨w7.heap.size, 0, none⟩ : Addr).add j) = some u) := by rw [hwB]; exact one_src w7 _
      have HVO : Hid (wB.ownsRow w.heap.size 39 1 vv m (Z.map Ln.vv)) := by have := (HLE7.out.here HBB.out).vals; rw [HZL2.out] at this; exact this
      clear hwB
      go_upto_region 9 with (at_builtin; go_loud (
        rw [HWB.out]
        refine wpList_append_lies _ rfl _ _ 28 rfl w.heap.size 39 i7 (.slice none 0 0) 1 24 Try.underlying28 hi7 hz70 hz71 hz72 rfl (by decide) vv m (Z.map Ln.vv) rfl HVO.out ⟨w7.heap.size, 0, none⟩ 1 1 [.slice av (e.e.v.length + 2) cv] rfl rfl HNEB.out (slice_one _ _ _) (by decide) (by unfold maxLen; omega) (by omega) (Nat.le_trans hw7 HBB.out.size) _ rfl ?_
        intro g8 c8 w8 ho8 hg8 hat8 _
        have HO8 : Hid _ := ho8
        have HG8 : Hid (wB.grownBy w8 vv.ownBlock) := hg8
        have HAT8 : Hid (vv.ownBlock = some g8 ∨ g8 = wB.heap.size) := hat8
        have hb8 := HLE7.out.mid (.inr rfl) HBB.out hg8
        obtain ⟨q0, q1, q2⟩ := hb8.cells
        obtain ⟨f0, f1, f2⟩ := hb8.open
        clear ho8 hg8 hat8 hb8))
      obtain ⟨w9, hw9⟩ : ∃ w9, w9 = w8.setCell ⟨b, 2, none⟩ (.slice (some ⟨g8, 0, none⟩) (m + 1) c8) := ⟨_, rfl⟩
      rw [← hw9]
      have hst := HLE7.out.valued HBB.out HG8.out HAT8.out (by rw [HZL2.out]; exact HO8.out) hw7
      rw [← hw9] at hst
      obtain ⟨hle9, ht9⟩ := hst
      have HLE9 : Hid _ := hle9
      have HB9 : Hid (Below w.heap.size w w9) := HB7.out.trans ht9.low
      have HN19 : Hid (NewKey w.heap.size w9 (.slice ak (e.e.k.length + 2) ck) (e.e.k ++ ends2)) := HN17.out.touch ht9
      have HN29 : Hid (NewKey w.heap.size w9 (.slice av (e.e.v.length + 2) cv) (e.e.v ++ ends2)) := HN27.out.touch ht9
      have HOK9 : Hid (∀ z ∈ Z, z.Ok w.heap.size w9) := fun z hz => (HOK7.out z hz).touch ht9
      obtain ⟨k0, _, _⟩ := hle9.box.cells
      have hdm : (Z.map Ln.it ++ List.replicate (L.length + 2 - m) noIt)[m]? = some noIt := by
        rw [List.getElem?_append_right (by rw [List.length_map, HZL.out]; exact Nat.le_refl _), List.length_map, HZL.out, Nat.sub_self, List.getElem?_replicate, if_pos (by omega)]
      obtain ⟨c0, c1'⟩ := hle9.row.cells m noIt hdm
      have r0 := hle9.row.open (m * 2)
      have r1 := hle9.row.open (m * 2 + 1)
      clear hw9 ht9 hle9 HN17 HN27 HOK7 HO8 HG8 HAT8 HVO HNEB HWB HBB HLE7 HB7 hw7 q0 q1 q2 f0 f1 f2 k2
      have hck : e.e.k.length + 2 ≤ ck := by
        obtain ⟨⟨a', c', e1, _, h2, _⟩, _⟩ := HN19.out.at
        simp only [Value.slice.injEq] at e1
        obtain ⟨_, h3, rfl⟩ := e1
        rw [← h3] at h2
        exact h2
      have hcv : e.e.v.length + 2 ≤ cv := by
        obtain ⟨⟨a', c', e1, _, h2, _⟩, _⟩ := HN29.out.at
        simp only [Value.slice.injEq] at e1
        obtain ⟨_, h3, rfl⟩ := e1
        rw [← h3] at h2
        exact h2
      have n1 := wrap_less2 (j := e.e.k.length) (by omega)
      have n2 := wrap_less2 (j := e.e.v.length) (by omega)
      have s1 : (((e.e.k.length + 2 : Nat) : Int) - 2) = (e.e.k.length : Int) := by omega
      have s2 : (((e.e.v.length + 2 : Nat) : Int) - 2) = (e.e.v.length : Int) := by omega
      have s3 : e.e.k.length ≤ ck := by omega
      have s4 : e.e.v.length ≤ cv := by omega
      have s5 : (m : Int) < ((L.length + 2 : Nat) : Int) := by omega
      have s6 : (m : Int) < (L.length : Int) + 2 := by omega
      have hdl : m < (Z.map Ln.it ++ List.replicate (L.length + 2 - m) noIt).length := (List.getElem?_eq_some_iff.1 hdm).1
      have hwr := HLE9.out.wrote m ⟨.slice ak e.e.k.length ck, .slice av e.e.v.length cv, e.e⟩ hdl
      obtain ⟨wp, hwp⟩ : ∃ wp, wp = putAt w9 (w.heap.size + 1) m ⟨.slice ak e.e.k.length ck, .slice av e.e.v.length cv, e.e⟩ := ⟨_, rfl⟩
      have HKP : Hid ((putAt w9 (w.heap.size + 1) m ⟨.slice ak e.e.k.length ck, .slice av e.e.v.length cv, e.e⟩).cell? ⟨b, 0, none⟩ = some (.slice (some ⟨w.heap.size + 1, 0, none⟩) (L.length + 2) (L.length + 2))) := hwr.1.box.cells.1
      have HWR : Hid _ := hwr
      clear hwr hwp wp
      have hgb : b ≠ w.heap.size + 1 := by
        obtain ⟨cur, h1, _⟩ := HLE9.out.row.is
        exact tag_ne HLE9.out.box.row h1 (by decide)
      have hgb2 : w.heap.size + 1 ≠ b := Ne.symm hgb
      clear HKP
      go_region_held_law (fun W' => W'.cell? ⟨b, 0, none⟩ = some (.slice (some ⟨w.heap.size + 1, 0, none⟩) (L.length + 2) (L.length + 2))) (first | go_keep | assumption | (simp [hgb, hgb2, k0]; done)) (fail)
      go_wp2
      have hbp : Below w.heap.size w ((putAt w9 (w.heap.size + 1) m ⟨.slice ak e.e.k.length ck, .slice av e.e.v.length cv, e.e⟩).drew) := (HB9.out.trans HWR.out.2.low).drew
      refine ⟨⟨m + 1, Z ++ [⟨.slice ak (e.e.k.length + 2) ck, .slice av (e.e.v.length + 2) cv, e.e⟩], .slice (some ⟨g6, 0, none⟩) (m + 1) c6, .slice (some ⟨g8, 0, none⟩) (m + 1) c8, by omega, by go_num, ?_, ?_, ?_, ?_, hbp⟩, by simp [intOf]; omega⟩
      · have h1 := HWR.out.1.here ((Below.refl _ _).drew)
        have h2 : (Z.map Ln.it ++ List.replicate (L.length + 2 - m) noIt).set m ⟨.slice ak e.e.k.length ck, .slice av e.e.v.length cv, e.e⟩ = (Z ++ [(⟨.slice ak (e.e.k.length + 2) ck, .slice av (e.e.v.length + 2) cv, e.e⟩ : Ln)]).map Ln.it ++ List.replicate (L.length + 2 - (m + 1)) noIt := by
          rw [show L.length + 2 - m = (L.length + 2 - (m + 1)) + 1 by omega, List.replicate_succ, List.set_append_right _ _ (by rw [List.length_map, HZL.out]; exact Nat.le_refl _), List.length_map, HZL.out, Nat.sub_self, List.set_cons_zero, List.map_append, List.append_assoc]
          rfl
        rw [h2] at h1
        simp only [List.map_append] at h1 ⊢
        exact h1
      · rw [List.map_append, HIS.out, List.take_add_one, List.getElem?_map, HEM.out]
        rfl
      · rw [List.length_append, HZL.out]; rfl
      · intro z hz
        rcases List.mem_append.1 hz with h | h
        · exact ((HOK9.out z h).touch HWR.out.2).here ((Below.refl _ _).drew)
        · simp at h
          subst h
          exact (Ln.Ok.touch ⟨HN19.out, HN29.out⟩ HWR.out.2).here ((Below.refl _ _).drew)
    · have hz : ¬ (m : Int) < (L.length : Int) := by omega
      have hmL : m = L.length := by omega
      have hli := HI.out
      rw [hmL] at hli
      have HI2 : Hid _ := hli
      clear hli HI
      obtain ⟨k0, k1, k2⟩ := HI2.out.lent.box.cells
      have hdl : (Z.map Ln.it ++ List.replicate (L.length + 2 - L.length) noIt) = Z.map Ln.it ++ [noIt, noIt] := by rw [Nat.add_sub_cancel_left]; rfl
      have HLT : Hid (Lent w.heap.size w.heap.size b (w.heap.size + 1) (L.length + 2) wr (Z.map Ln.it ++ [noIt, noIt]) (Z.map Ln.kv) (Z.map Ln.vv) vk vv) := by rw [← hdl]; exact HI2.out.lent
      clear hdl
      obtain ⟨c0, c1⟩ := HLT.out.row.cells L.length noIt (by rw [List.getElem?_append_right (by rw [List.length_map, HI2.out.len]; exact Nat.le_refl _), List.length_map, HI2.out.len, Nat.sub_self]; rfl)
      have r0 := HLT.out.row.open (L.length * 2)
      have r1 := HLT.out.row.open (L.length * 2 + 1)
      clear c0 c1 r0 r1
      have hb10 : Below wr.heap.size wr (wr.alloc (.cells #[.int .u8 1] 5)) := below_new _ _
      have hl10 := HLT.out.here hb10
      have hD0 : (Z.map Ln.it ++ [noIt, noIt])[L.length]? = some noIt := by rw [List.getElem?_append_right (by rw [List.length_map, HI2.out.len]; exact Nat.le_refl _), List.length_map, HI2.out.len, Nat.sub_self]; rfl
      obtain ⟨c0, c1⟩ := hl10.row.cells L.length noIt hD0
      have r0 := hl10.row.open (L.length * 2)
      have r1 := hl10.row.open (L.length * 2 + 1)
      have hwr := hl10.wrote L.length ⟨.slice (some ⟨wr.heap.size, 0, none⟩) 1 1, .slice none 0 0, ⟨[1], []⟩⟩ (List.getElem?_eq_some_iff.1 hD0).1
      have hkey1 : KeyAt (wr.alloc (.cells #[.int .u8 1] 5)) (.slice (some ⟨wr.heap.size, 0, none⟩) 1 1) [1] := (newOne wr 1).at
      have HOK : Hid (∀ z ∈ Z, z.Ok w.heap.size (wr.alloc (.cells #[.int .u8 1] 5))) := fun z hz => (HI2.out.ok z hz).here hb10
      have HWR : Hid _ := hwr
      have HKY : Hid _ := newOne wr 1
      have HLW : Hid (Below w.heap.size w (wr.alloc (.cells #[.int .u8 1] 5))) := HI2.out.low.trans (hb10.mono HI2.out.low.size)
      have HIS : Hid (Z.map Ln.e = L.map It.e) := by have := HI2.out.is; rw [List.take_of_length_le (by simp)] at this; exact this
      have HZL : Hid (Z.length = L.length) := HI2.out.len
      have hwz := HI2.out.low.size
      clear hb10 hl10 hwr HLT HI2 hD0 hkey1
      go_upto_region 11 with fail
      obtain ⟨w11, hw11⟩ : ∃ w11, w11 = ((wr.alloc (.cells #[.int .u8 1] 5)).setCell ⟨w.heap.size + 1, L.length * 2, none⟩ (.slice (some ⟨wr.heap.size, 0, none⟩) 1 1)).setCell ⟨w.heap.size + 1, L.length * 2 + 1, none⟩ (.slice none 0 0) := ⟨_, rfl⟩
      rw [← hw11]
      have hD1 : (Z.map Ln.it ++ [noIt, noIt]).set L.length ⟨.slice (some ⟨wr.heap.size, 0, none⟩) 1 1, .slice none 0 0, ⟨[1], []⟩⟩ = Z.map Ln.it ++ [⟨.slice (some ⟨wr.heap.size, 0, none⟩) 1 1, .slice none 0 0, ⟨[1], []⟩⟩, noIt] := by
        rw [List.set_append_right _ _ (by rw [List.length_map, HZL.out]; exact Nat.le_refl _), List.length_map, HZL.out, Nat.sub_self]; rfl
      have hl11 : Lent w.heap.size w.heap.size b (w.heap.size + 1) (L.length + 2) w11 (Z.map Ln.it ++ [⟨.slice (some ⟨wr.heap.size, 0, none⟩) 1 1, .slice none 0 0, ⟨[1], []⟩⟩, noIt]) (Z.map Ln.kv) (Z.map Ln.vv) vk vv := by rw [hw11, ← hD1]; exact HWR.out.1
      have ht11 : Touch w.heap.size (wr.alloc (.cells #[.int .u8 1] 5)) w11 := by rw [hw11]; exact HWR.out.2
      have HB11 : Hid (Below w.heap.size w w11) := HLW.out.trans ht11.low
      have HOK11 : Hid (∀ z ∈ Z, z.Ok w.heap.size w11) := fun z hz => (HOK.out z hz).touch ht11
      have HY1 : Hid (NewKey wr.heap.size w11 (.slice (some ⟨wr.heap.size, 0, none⟩) 1 1) [1]) := NewKey.touch HKY.out ht11
      clear hw11 hD1 ht11 HWR HOK HKY HLW c0 c1 r0 r1 k0 k1 k2
      obtain ⟨k0, _, _⟩ := hl11.box.cells
      have hb12 : Below w11.heap.size w11 (w11.alloc (.cells #[.int .u8 2] 5)) := below_new _ _
      have hl12 := hl11.here hb12
      have hD0 : (Z.map Ln.it ++ [⟨.slice (some ⟨wr.heap.size, 0, none⟩) 1 1, .slice none 0 0, ⟨[1], []⟩⟩, noIt])[L.length + 1]? = some noIt := by rw [List.getElem?_append_right (by rw [List.length_map, HZL.out]; exact Nat.le_succ _), List.length_map, HZL.out, Nat.add_sub_cancel_left]; rfl
      obtain ⟨c0, c1⟩ := hl12.row.cells (L.length + 1) noIt hD0
      have r0 := hl12.row.open ((L.length + 1) * 2)
      have r1 := hl12.row.open ((L.length + 1) * 2 + 1)
      have hwr := hl12.wrote (L.length + 1) ⟨.slice (some ⟨w11.heap.size, 0, none⟩) 1 1, .slice none 0 0, ⟨[2], []⟩⟩ (List.getElem?_eq_some_iff.1 hD0).1
      have HWR : Hid _ := hwr
      have HOK : Hid (∀ z ∈ Z, z.Ok w.heap.size (w11.alloc (.cells #[.int .u8 2] 5))) := fun z hz => (HOK11.out z hz).here hb12
      have HKY : Hid _ := newOne w11 2
      have HY12 : Hid (NewKey wr.heap.size (w11.alloc (.cells #[.int .u8 2] 5)) (.slice (some ⟨wr.heap.size, 0, none⟩) 1 1) [1]) := HY1.out.here hb12
      have HLW : Hid (Below w.heap.size w (w11.alloc (.cells #[.int .u8 2] 5))) := HB11.out.trans (hb12.mono HB11.out.size)
      clear hb12 hl12 hwr hD0 HOK11 HY1 HB11 hl11
      go_upto_region 12 with fail
      obtain ⟨w13, hw13⟩ : ∃ w13, w13 = ((w11.alloc (.cells #[.int .u8 2] 5)).setCell ⟨w.heap.size + 1, (L.length + 1) * 2, none⟩ (.slice (some ⟨w11.heap.size, 0, none⟩) 1 1)).setCell ⟨w.heap.size + 1, (L.length + 1) * 2 + 1, none⟩ (.slice none 0 0) := ⟨_, rfl⟩
      rw [← hw13]
      have hD1 : (Z.map Ln.it ++ [⟨.slice (some ⟨wr.heap.size, 0, none⟩) 1 1, .slice none 0 0, ⟨[1], []⟩⟩, noIt]).set (L.length + 1) ⟨.slice (some ⟨w11.heap.size, 0, none⟩) 1 1, .slice none 0 0, ⟨[2], []⟩⟩ = Z.map Ln.it ++ [⟨.slice (some ⟨wr.heap.size, 0, none⟩) 1 1, .slice none 0 0, ⟨[1], []⟩⟩, ⟨.slice (some ⟨w11.heap.size, 0, none⟩) 1 1, .slice none 0 0, ⟨[2], []⟩⟩] := by
        rw [List.set_append_right _ _ (by rw [List.length_map, HZL.out]; exact Nat.le_succ _), List.length_map, HZL.out, Nat.add_sub_cancel_left]; rfl
      have hl13 : Lent w.heap.size w.heap.size b (w.heap.size + 1) (L.length + 2) w13 (Z.map Ln.it ++ [⟨.slice (some ⟨wr.heap.size, 0, none⟩) 1 1, .slice none 0 0, ⟨[1], []⟩⟩, ⟨.slice (some ⟨w11.heap.size, 0, none⟩) 1 1, .slice none 0 0, ⟨[2], []⟩⟩]) (Z.map Ln.kv) (Z.map Ln.vv) vk vv := by rw [hw13, ← hD1]; exact HWR.out.1
      have ht13 : Touch w.heap.size (w11.alloc (.cells #[.int .u8 2] 5)) w13 := by rw [hw13]; exact HWR.out.2
      have HB13 : Hid (Below w.heap.size w w13) := HLW.out.trans ht13.low
      have HOK13 : Hid (∀ z ∈ Z, z.Ok w.heap.size w13) := fun z hz => (HOK.out z hz).touch ht13
      have HY1 : Hid (NewKey wr.heap.size w13 (.slice (some ⟨wr.heap.size, 0, none⟩) 1 1) [1]) := HY12.out.touch ht13
      have HY2 : Hid (NewKey w11.heap.size w13 (.slice (some ⟨w11.heap.size, 0, none⟩) 1 1) [2]) := NewKey.touch HKY.out ht13
      clear hw13 hD1 ht13 HWR HOK HKY HLW HY12 c0 c1 r0 r1 k0
      obtain ⟨ka, kn, kc, rfl⟩ := own_shape hl13.keys
      obtain ⟨va, vn, vc, rfl⟩ := own_shape hl13.vals
      obtain ⟨k0, k1, k2⟩ := hl13.box.cells
      obtain ⟨m0, m1, m2⟩ := hl13.res.cells
      obtain ⟨f0, f1, f2⟩ := hl13.res.open
      have HL13 : Hid _ := hl13
      have hkp := hl13.res.keep3 (B := w.heap.size) (Nat.le_refl _) (.slice (some ⟨w.heap.size + 1, 0, none⟩) (L.length + 2) (L.length + 2)) (.slice ka kn kc) (.slice va vn vc)
      have HKP : Hid _ := hkp
      clear hl13 hkp
      go_wp2
      refine bodyPost_ret (ret_loan rfl rfl (HL13.out.res.put _ _ _)) rfl ⟨_, rfl, ⟨⟨w.heap.size + 1, .slice ka kn kc, .slice va vn vc, Z, ⟨.slice (some ⟨wr.heap.size, 0, none⟩) 1 1, .slice none 0 0, ⟨[1], []⟩⟩, ⟨.slice (some ⟨w11.heap.size, 0, none⟩) 1 1, .slice none 0 0, ⟨[2], []⟩⟩, ?_, HIS.out, ?_, ?_, ?_, ?_, ?_, ?_⟩⟩, ?_⟩
      · rw [List.length_map]
      · rw [List.length_map]; exact HL13.out.row.keep HKP.out (by decide)
      · have h1 := own_keep HL13.out.keys HKP.out (by decide)
        rw [List.length_map] at h1
        exact h1
      · have h1 := own_keep HL13.out.vals HKP.out (by decide)
        rw [List.length_map] at h1
        exact h1
      · exact fun z hz => (HOK13.out z hz).keep HKP.out (by decide)
      · exact ⟨own_mono (HY1.out.keep HKP.out (by decide)).own (Nat.zero_le _), (by decide : 1 ≤ 140737488355328)⟩
      · exact ⟨own_mono (HY2.out.keep HKP.out (by decide)).own (Nat.zero_le _), (by decide : 1 ≤ 140737488355328)⟩
      · exact HB13.out.trans HKP.out.low
end Go.Proofs.Ytgifnaahahfhbaa
