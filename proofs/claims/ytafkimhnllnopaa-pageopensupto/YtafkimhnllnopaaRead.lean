/- read: what a page's bytes say. -/
import Derived.Test.YtafkimhnllnopaaSeal
import Derived.Deep.DeepCutAuto
namespace Go.Proofs.Ytafkimhnllnopaa
open Go.RowKit

theorem load_as (w : World) (g off n cap : Nat) (ad : Option Addr) (bs : List UInt8) (i : Nat) (had : ad = some ⟨g, off + i, none⟩) (hb : BytesAt w.heap.size w (some ⟨g, off, none⟩) bs) (hn : i + n ≤ bs.length) (hlen : n ≤ 8) :
    Calls Try.prog 32 #[.slice ad n cap] w fun e w' => e = .returned (.int .u64 (bev ((bs.drop i).take n) : Int)) ∧ w' = w := by
  subst had
  exact load_any w _ n cap _ (hb.part i n) (by simp; omega) hlen

theorem wrapi (n : Nat) (h : n < 9223372036854775808) : IntKind.i64.wrap (n : Int) = (n : Int) := by
  simp [IntKind.wrap, IntKind.bits, IntKind.signed]; omega
theorem wrapw (n : Nat) (h : n < 9223372036854775808) : wrap64 (n : Int) = (n : Int) := by
  unfold wrap64; omega
theorem read_rel (w : World) (x1 x2 : Int) (k n g : Nat) (h1 : x1 = (k : Int)) (h2 : x2 = (n : Int)) :
    Value.pointer (some ⟨w.heap.size + 1, 0, none⟩) = Value.pointer (some ⟨w.heap.size + 1, 0, none⟩) ∧ Below (w.alloc (.cells #[.int .i64 0, .int .i64 0, .int .u64 0] 26)).heap.size (w.alloc (.cells #[.int .i64 0, .int .i64 0, .int .u64 0] 26)) ((w.alloc (.cells #[.int .i64 0, .int .i64 0, .int .u64 0] 26)).alloc (.cells #[.int .i64 x1, .int .i64 x2, .int .u64 (g : Int)] 26)).drew ∧
      ((w.alloc (.cells #[.int .i64 0, .int .i64 0, .int .u64 0] 26)).alloc (.cells #[.int .i64 x1, .int .i64 x2, .int .u64 (g : Int)] 26)).drew.heap[w.heap.size + 1]? = some (.cells #[.int .i64 k, .int .i64 n, .int .u64 g] 26 (0, 0)) := by
  subst h1
  subst h2
  refine ⟨rfl, ((Below.refl _ _).alloc (Nat.le_refl _) _).drew, ?_⟩
  have := heap_alloc_last (w.alloc (.cells #[.int .i64 0, .int .i64 0, .int .u64 0] 26)) (.cells #[.int .i64 k, .int .i64 n, .int .u64 g] 26)
  rw [show (w.alloc (.cells #[.int .i64 0, .int .i64 0, .int .u64 0] 26)).heap.size = w.heap.size + 1 by simp] at this
  exact this

/-- A head stored whole. -/
theorem head_row {w : World} {b : Nat} {a0 a1 a2 : Value} (x y z : Value) (h : w.heap[b]? = some (.cells #[a0, a1, a2] 26 (0, 0))) :
    (((w.setCell ⟨b, 0, none⟩ x).setCell ⟨b, 1, none⟩ y).setCell ⟨b, 2, none⟩ z).heap[b]? = some (.cells #[x, y, z] 26 (0, 0)) := by
  rw [heap_set_same z (heap_set_same y (heap_set_same x h))]
  rfl
theorem head_cells {w : World} {b : Nat} {x y z : Value} (h : w.heap[b]? = some (.cells #[x, y, z] 26 (0, 0))) :
    w.cell? ⟨b, 0, none⟩ = some x ∧ w.cell? ⟨b, 1, none⟩ = some y ∧ w.cell? ⟨b, 2, none⟩ = some z := by
  refine ⟨?_, ?_, ?_⟩ <;> (rw [row_cell h]; rfl)

set_option maxHeartbeats 4000000 in
set_option maxRecDepth 100000 in
theorem read_any (w : World) (a : Option Addr) (cap : Nat) (bs : List UInt8) (hb : BytesAt w.heap.size w a bs) (hcap : bs.length ≤ cap) (hlen : bs.length ≤ 140737488355328) :
    Calls Try.prog 31 #[.slice a bs.length cap] w fun e w' => Below w.heap.size w w' ∧
      ((formB bs = false ∧ e = .returned (.tuple #[headV 0 0 0, .slice none 0 0, .bool false])) ∨
       (formB bs = true ∧ ∃ g off, a = some ⟨g, off, none⟩ ∧ e = .returned (.tuple #[headV (kindAt bs) (numAt bs) (genAt bs), .slice (some ⟨g, off + 24, none⟩) (lenAt bs) (cap - 24), .bool true]))) := by
  have HB : Hid (BytesAt w.heap.size w a bs) := hb
  clear hb
  have hbr : Below w.heap.size w (w.alloc (.cells #[.int .i64 0, .int .i64 0, .int .u64 0] 26)) := (Below.refl _ _).alloc (Nat.le_refl _) _
  have HBR : Hid _ := hbr
  clear hbr
  go_enter Try.func31, Try.ntmps31
  go_wp2_with fail
  refine (room_any _ _).mono ?_
  rintro _ _ ⟨rfl, rfl⟩
  have hno : head1 bs = false → formB bs = false := fun h => by simp [formB, h]
  have HNO : Hid _ := hno
  clear hno
  cases hs : sizedB bs.length with
  | false =>
    rw [room_other hs]
    have HF : Hid (formB bs = false) := HNO.out (by simp [head1, hs])
    go_wp2
    refine bodyPost_ret (v := .tuple #[headV 0 0 0, .slice none 0 0, .bool false]) (by simp [results, Try.results31, go_sem, headV]) rfl ⟨HBR.out, .inl ⟨HF.out, rfl⟩⟩
  | true =>
    have hz := sized_bounds hs
    rw [room_sized hs]
    have hz0 : ((bs.length : Int) - 32 == 0) = false := by rw [beq_eq_false_iff_ne]; omega
    obtain ⟨c0, hc0⟩ : ∃ c, bs[0]? = some c := ⟨bs[0]'(by omega), List.getElem?_eq_getElem (by omega)⟩
    obtain ⟨gb, off, rfl, hgb, _⟩ := HB.out 0 c0 hc0
    obtain ⟨c2, hc2⟩ : ∃ c, bs[2]? = some c := ⟨bs[2]'(by omega), List.getElem?_eq_getElem (by omega)⟩
    obtain ⟨c3, hc3⟩ : ∃ c, bs[3]? = some c := ⟨bs[3]'(by omega), List.getElem?_eq_getElem (by omega)⟩
    have HB1 : Hid (BytesAt (w.alloc (.cells #[.int .i64 0, .int .i64 0, .int .u64 0] 26)).heap.size (w.alloc (.cells #[.int .i64 0, .int .i64 0, .int .u64 0] 26)) (some ⟨gb, off, none⟩) bs) := HB.out.here HBR.out
    have x2 : ∀ W, Below w.heap.size w W → W.cell? ⟨gb, off + 2, none⟩ = some (.int .u8 (c2.toNat : Int)) := fun W h => (HB.out.below h).cellAt 2 c2 hc2
    have x3 : ∀ W, Below w.heap.size w W → W.cell? ⟨gb, off + 3, none⟩ = some (.int .u8 (c3.toNat : Int)) := fun W h => (HB.out.below h).cellAt 3 c3 hc3
    have HX2 : Hid _ := x2
    have y3 := x3 _ (Below.refl w.heap.size w)
    have b2 : (2 : Int) < (bs.length : Int) := by omega
    have b3 : (3 : Int) < (bs.length : Int) := by omega
    have b4 : (2 : Int) ≤ (cap : Int) := by omega
    have HC2 : Hid _ := hc2
    have HC3 : Hid _ := hc3
    have HSZ : Hid _ := hs
    clear x2 x3 hc0 hc2 hc3 hs
    go_wp2_with fail
    refine (load_as _ gb off 2 _ _ bs 0 rfl HB1.out (by omega) (by decide)).mono ?_
    rintro _ _ ⟨rfl, rfl⟩
    rw [List.drop_zero]
    by_cases hm : bev (bs.take 2) = 16985
    · have hm' : ((bev (bs.take 2) : Nat) : Int) = 16985 := by omega
      rw [hm']
      have HM : Hid _ := hm
      clear hm' hm
      by_cases h3 : c3 = 0
      · subst h3
        have y3' : w.cell? ⟨gb, off + 3, none⟩ = some (.int .u8 0) := y3
        clear y3
        go_wp2_with fail
        refine (load_as _ gb off 4 _ _ bs 20 rfl HB1.out (by omega) (by decide)).mono ?_
        rintro _ _ ⟨rfl, rfl⟩
        by_cases h20 : bev ((bs.drop 20).take 4) = 0
        · have h20' : ((bev ((bs.drop 20).take 4) : Nat) : Int) = 0 := by omega
          rw [h20']
          have HH1 : Hid (head1 bs = true) := by
            show _ = _
            simp [head1, HSZ.out, HM.out, HC3.out, h20]
          clear h20' h20
          have y2 := HX2.out _ HBR.out
          have HA : Hid (c2.toNat < 9223372036854775808) := by have := UInt8.toNat_lt c2; show _ < _; omega
          have HA2 : Hid (bev ((bs.drop 4).take 4) < 9223372036854775808) := by
            have := bev_lt ((bs.drop 4).take 4)
            rw [show ((bs.drop 4).take 4).length = 4 by simp; omega] at this
            show _ < _
            omega
          have HB2 : Hid (BytesAt ((w.alloc (.cells #[.int .i64 0, .int .i64 0, .int .u64 0] 26)).alloc (.cells #[.int .i64 0, .int .i64 0, .int .u64 0] 26)).heap.size ((w.alloc (.cells #[.int .i64 0, .int .i64 0, .int .u64 0] 26)).alloc (.cells #[.int .i64 0, .int .i64 0, .int .u64 0] 26)) (some ⟨gb, off, none⟩) bs) := HB1.out.here ((Below.refl _ _).alloc (Nat.le_refl _) _)
          go_wp2_with fail
          go_cut [6] (fun s6 wx => s6 = .pointer (some ⟨w.heap.size + 1, 0, none⟩) ∧ Below (w.alloc (.cells #[.int .i64 0, .int .i64 0, .int .u64 0] 26)).heap.size (w.alloc (.cells #[.int .i64 0, .int .i64 0, .int .u64 0] 26)) wx ∧ wx.heap[w.heap.size + 1]? = some (.cells #[.int .i64 (c2.toNat : Int), .int .i64 (numAt bs : Int), .int .u64 (genAt bs : Int)] 26 (0, 0)))
          case first =>
            go_region_held_law (fun W => W.cell? ⟨gb, off + 2, none⟩ = some (.int .u8 (c2.toNat : Int))) (go_keep)
              (first
                | (go_at_call_of 32 (8 : Nat); refine (load_as _ gb off 8 _ _ bs 8 (by first | rfl | exact if_neg (by omega)) (by first | exact HB1.out | exact HB2.out) (by omega) (by decide)).mono ?_; rintro _ _ ⟨rfl, rfl⟩)
                | (go_at_call_of 32 (4 : Nat); refine (load_as _ gb off 4 _ _ bs 4 (by first | rfl | exact if_neg (by omega)) (by first | exact HB1.out | exact HB2.out) (by omega) (by decide)).mono ?_; rintro _ _ ⟨rfl, rfl⟩))
            all_goals
              go_wp2_with fail
              go_meet
              exact read_rel w _ _ _ _ _ (by first | exact wrapw _ HA.out | exact wrapi _ HA.out) (by first | exact wrapw _ HA2.out | exact wrapi _ HA2.out)
          case rest =>
            obtain ⟨rfl, hbc, hhc⟩ := hcut
            have hbw : Below w.heap.size w wc := HBR.out.trans (hbc.mono HBR.out.size)
            have HBW : Hid (Below w.heap.size w wc) := hbw
            have HBC : Hid (Below (w.alloc (.cells #[.int .i64 0, .int .i64 0, .int .u64 0] 26)).heap.size (w.alloc (.cells #[.int .i64 0, .int .i64 0, .int .u64 0] 26)) wc) := hbc
            have HHC : Hid _ := hhc
            have HBY : Hid (BytesAt wc.heap.size wc (some ⟨gb, off, none⟩) bs) := HB.out.here hbw
            have hk0 : wc.cell? ⟨w.heap.size + 1, 0, none⟩ = some (.int .i64 (c2.toNat : Int)) := by rw [row_cell hhc]; rfl
            have hk1 : wc.cell? ⟨w.heap.size + 1, 1, none⟩ = some (.int .i64 (numAt bs : Int)) := by rw [row_cell hhc]; rfl
            have hk2 : wc.cell? ⟨w.heap.size + 1, 2, none⟩ = some (.int .u64 (genAt bs : Int)) := by rw [row_cell hhc]; rfl
            clear hbw hbc hhc y2 y3'
            go_wp2_with fail
            refine (load_as _ gb off 4 _ _ bs 16 rfl HBY.out (by omega) (by decide)).mono ?_
            rintro _ wx ⟨rfl, hwx⟩
            rw [hwx, show bev ((bs.drop 16).take 4) = lenAt bs from rfl]
            clear hwx
            go_wp2_with fail
            refine (mayBe_any _ _ _ _).mono ?_
            rintro _ w3 ⟨rfl, hb3⟩
            have hlt : lenAt bs < 4294967296 := by
              have := bev_lt ((bs.drop 16).take 4)
              rw [show ((bs.drop 16).take 4).length = 4 by simp; omega] at this
              exact this
            have hkc : kindAt bs = c2.toNat := by simp [kindAt, HC2.out]
            have HNO2 : Hid (head2 bs = false → formB bs = false) := fun h => by simp [formB, h]
            have hrow0 : (w.alloc (.cells #[.int .i64 0, .int .i64 0, .int .u64 0] 26)).heap[w.heap.size]? = some (.cells #[.int .i64 0, .int .i64 0, .int .u64 0] 26 (0, 0)) := heap_alloc_last w _
            have hrc : wc.heap[w.heap.size]? = some (.cells #[.int .i64 0, .int .i64 0, .int .u64 0] 26 (0, 0)) := by rw [HBC.out.block _ (by simp)]; exact hrow0
            have hlt1 : w.heap.size < wc.heap.size := by have := HBC.out.size; simp at this; omega
            have hlt2 : w.heap.size + 1 < wc.heap.size := (Array.getElem?_eq_some_iff.1 HHC.out).1
            have hr3 : w3.heap[w.heap.size]? = some (.cells #[.int .i64 0, .int .i64 0, .int .u64 0] 26 (0, 0)) := by rw [hb3.block _ hlt1]; exact hrc
            have hh3 : w3.heap[w.heap.size + 1]? = some (.cells #[.int .i64 (c2.toNat : Int), .int .i64 (numAt bs : Int), .int .u64 (genAt bs : Int)] 26 (0, 0)) := by rw [hb3.block _ hlt2]; exact HHC.out
            have HBW3 : Hid (Below w.heap.size w w3) := HBW.out.trans (hb3.mono HBW.out.size)
            have z0 : w3.cell? ⟨w.heap.size, 0, none⟩ = some (.int .i64 0) := by rw [row_cell hr3]; rfl
            have z1 : w3.cell? ⟨w.heap.size, 1, none⟩ = some (.int .i64 0) := by rw [row_cell hr3]; rfl
            have z2 : w3.cell? ⟨w.heap.size, 2, none⟩ = some (.int .u64 0) := by rw [row_cell hr3]; rfl
            have f0 := row_frozen hr3 0
            have f1 := row_frozen hr3 1
            have f2 := row_frozen hr3 2
            have HR3 : Hid _ := hr3
            have HH3 : Hid _ := hh3
            have HKC : Hid _ := hkc
            have HHH : Hid _ := HHC
            clear hb3 hkc hrow0 hrc hlt1 hlt2 hr3 hh3 hk0 hk1 hk2
            cases hmay : mayB (c2.toNat : Int) (numAt bs : Int) with
            | false =>
              have HF : Hid (formB bs = false) := HNO2.out (by simp [head2, HKC.out, hmay])
              clear hmay
              go_wp2
              obtain ⟨W, hW⟩ : ∃ W, W = (((w3.setCell ⟨w.heap.size, 0, none⟩ (.int .i64 0)).setCell ⟨w.heap.size, 1, none⟩ (.int .i64 0)).setCell ⟨w.heap.size, 2, none⟩ (.int .u64 0)) := ⟨_, rfl⟩
              have hWr : W.heap[w.heap.size]? = some (.cells #[.int .i64 0, .int .i64 0, .int .u64 0] 26 (0, 0)) := by rw [hW]; exact head_row _ _ _ HR3.out
              have HWB : Hid (Below w.heap.size w W) := by rw [hW]; exact ((HBW3.out.setCell (Nat.le_refl _) _).setCell (Nat.le_refl _) _).setCell (Nat.le_refl _) _
              rw [← hW]
              obtain ⟨p0, p1, p2⟩ := head_cells hWr
              refine bodyPost_ret (v := .tuple #[headV 0 0 0, .slice none 0 0, .bool false]) (by simp [results, Try.results31, go_sem, headV, p0, p1, p2]) rfl ⟨HWB.out, .inl ⟨HF.out, rfl⟩⟩
            | true =>
              by_cases hL : lenAt bs ≤ bs.length - 32
              · have hLz : ¬ ((bs.length : Int) - 32 < (lenAt bs : Int)) := by omega
                have HH2 : Hid (head2 bs = true) := by
                  show _ = _
                  simp [head2, HKC.out, hmay, hL]
                obtain ⟨m, hm⟩ : ∃ m, Hid (bs.length = m + 8) := ⟨bs.length - 8, by show _ = _; omega⟩
                obtain ⟨E, hE⟩ : ∃ E : Nat, 24 + (lenAt bs : Int) = (E : Int) := ⟨24 + lenAt bs, by omega⟩
                have HE : Hid (E = 24 + lenAt bs) := by show _ = _; omega
                have hEm : (E : Int) ≤ (m : Int) := by have := hm.out; omega
                have hmc : (m : Int) ≤ (cap : Int) := by have := hm.out; omega
                have HBY3 : Hid (BytesAt w3.heap.size w3 (some ⟨gb, off, none⟩) bs) := HB.out.here HBW3.out
                go_wp2_with fail
                refine (sumAt_as _ _ _ m _ hm.out hlen).mono ?_
                rintro _ wx ⟨rfl, hwx⟩
                rw [hwx]
                clear hwx
                go_wp2_with fail
                have HH3e : Hid (((bs.drop E).take (m - E)).all (· == 0) = head3 bs) := by
                  show _ = _
                  have := hm.out
                  rw [head3, HE.out, this, show m + 8 - 8 - (24 + lenAt bs) = m - (24 + lenAt bs) by omega]
                refine (noughts_any _ _ _ _ ((bs.drop E).take (m - E)) (HBY3.out.part E (m - E)) (by have := hm.out; simp; omega) (by have := hm.out; omega)).mono ?_
                rintro _ wx2 ⟨rfl, hwx2⟩
                rw [hwx2, HH3e.out]
                clear hwx2
                cases h3 : head3 bs with
                | false =>
                  have HF : Hid (formB bs = false) := by show _ = _; simp [formB, h3]
                  clear h3 hmay
                  go_wp2
                  obtain ⟨W, hW⟩ : ∃ W, W = (((w3.setCell ⟨w.heap.size, 0, none⟩ (.int .i64 0)).setCell ⟨w.heap.size, 1, none⟩ (.int .i64 0)).setCell ⟨w.heap.size, 2, none⟩ (.int .u64 0)) := ⟨_, rfl⟩
                  have hWr : W.heap[w.heap.size]? = some (.cells #[.int .i64 0, .int .i64 0, .int .u64 0] 26 (0, 0)) := by rw [hW]; exact head_row _ _ _ HR3.out
                  have HWB : Hid (Below w.heap.size w W) := by rw [hW]; exact ((HBW3.out.setCell (Nat.le_refl _) _).setCell (Nat.le_refl _) _).setCell (Nat.le_refl _) _
                  rw [← hW]
                  obtain ⟨p0, p1, p2⟩ := head_cells hWr
                  refine bodyPost_ret (v := .tuple #[headV 0 0 0, .slice none 0 0, .bool false]) (by simp [results, Try.results31, go_sem, headV, p0, p1, p2]) rfl ⟨HWB.out, .inl ⟨HF.out, rfl⟩⟩
                | true =>
                  have HF : Hid (formB bs = true) := by show _ = _; simp [formB, HH1.out, HH2.out, h3]
                  clear h3 hmay
                  obtain ⟨k0, k1, k2⟩ := head_cells HH3.out
                  have hE24 : (24 : Int) ≤ (E : Int) := by have := HE.out; omega
                  have hEc : (E : Int) ≤ (cap : Int) := by omega
                  go_wp2_with fail
                  go_region
                  go_wp2
                  obtain ⟨W, hW⟩ : ∃ W, W = (((w3.setCell ⟨w.heap.size, 0, none⟩ (.int .i64 (c2.toNat : Int))).setCell ⟨w.heap.size, 1, none⟩ (.int .i64 (numAt bs : Int))).setCell ⟨w.heap.size, 2, none⟩ (.int .u64 (genAt bs : Int))).drew := ⟨_, rfl⟩
                  have hWr : W.heap[w.heap.size]? = some (.cells #[.int .i64 (c2.toNat : Int), .int .i64 (numAt bs : Int), .int .u64 (genAt bs : Int)] 26 (0, 0)) := by rw [hW]; exact head_row _ _ _ HR3.out
                  have HWB : Hid (Below w.heap.size w W) := by rw [hW]; exact (((HBW3.out.setCell (Nat.le_refl _) _).setCell (Nat.le_refl _) _).setCell (Nat.le_refl _) _).drew
                  rw [← hW]
                  obtain ⟨p0, p1, p2⟩ := head_cells hWr
                  refine bodyPost_ret (v := .tuple #[headV (c2.toNat : Int) (numAt bs) (genAt bs), .slice (some ⟨gb, off + 24, none⟩) (E - 24) (cap - 24), .bool true]) (by simp [results, Try.results31, go_sem, headV, p0, p1, p2]) rfl ⟨HWB.out, .inr ⟨HF.out, gb, off, rfl, ?_⟩⟩
                  rw [HKC.out, HE.out, Nat.add_sub_cancel_left]
              · have hLz : (bs.length : Int) - 32 < (lenAt bs : Int) := by omega
                have HF : Hid (formB bs = false) := HNO2.out (by simp [head2, hL])
                clear hmay
                go_wp2
                obtain ⟨W, hW⟩ : ∃ W, W = (((w3.setCell ⟨w.heap.size, 0, none⟩ (.int .i64 0)).setCell ⟨w.heap.size, 1, none⟩ (.int .i64 0)).setCell ⟨w.heap.size, 2, none⟩ (.int .u64 0)) := ⟨_, rfl⟩
                have hWr : W.heap[w.heap.size]? = some (.cells #[.int .i64 0, .int .i64 0, .int .u64 0] 26 (0, 0)) := by rw [hW]; exact head_row _ _ _ HR3.out
                have HWB : Hid (Below w.heap.size w W) := by rw [hW]; exact ((HBW3.out.setCell (Nat.le_refl _) _).setCell (Nat.le_refl _) _).setCell (Nat.le_refl _) _
                rw [← hW]
                obtain ⟨p0, p1, p2⟩ := head_cells hWr
                refine bodyPost_ret (v := .tuple #[headV 0 0 0, .slice none 0 0, .bool false]) (by simp [results, Try.results31, go_sem, headV, p0, p1, p2]) rfl ⟨HWB.out, .inl ⟨HF.out, rfl⟩⟩
        · have h20' : (((bev ((bs.drop 20).take 4) : Nat) : Int) == 0) = false := by rw [beq_eq_false_iff_ne]; omega
          have HF : Hid (formB bs = false) := HNO.out (by simp [head1, h20])
          go_wp2
          refine bodyPost_ret (v := .tuple #[headV 0 0 0, .slice none 0 0, .bool false]) (by simp [results, Try.results31, go_sem, headV]) rfl ⟨HBR.out, .inl ⟨HF.out, rfl⟩⟩
      · have hcz : ((c3.toNat : Int) == 0) = false := by
          rw [beq_eq_false_iff_ne]
          intro e
          exact h3 (UInt8.toNat_inj.1 (by have : c3.toNat = 0 := by omega
                                          exact this))
        have HF : Hid (formB bs = false) := HNO.out (by simp [head1, HC3.out, h3])
        have hcz2 : ((c3.toNat : Int) != 0) = true := by simp [bne, hcz]
        go_wp2
        refine bodyPost_ret (v := .tuple #[headV 0 0 0, .slice none 0 0, .bool false]) (by simp [results, Try.results31, go_sem, headV]) rfl ⟨HBR.out, .inl ⟨HF.out, rfl⟩⟩
    · have hm' : (((bev (bs.take 2) : Nat) : Int) == 16985) = false := by rw [beq_eq_false_iff_ne]; omega
      have HF : Hid (formB bs = false) := HNO.out (by simp [head1, hm])
      clear hm
      generalize bev (bs.take 2) = x at hm' ⊢
      have hm2 : ((x : Int) != 16985) = true := by simp [bne, hm']
      go_wp2
      refine bodyPost_ret (v := .tuple #[headV 0 0 0, .slice none 0 0, .bool false]) (by simp [results, Try.results31, go_sem, headV]) rfl ⟨HBR.out, .inl ⟨HF.out, rfl⟩⟩
end Go.Proofs.Ytafkimhnllnopaa
