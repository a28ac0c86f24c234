/- Open: the contract. -/
import Derived.Test.YtafkimhnllnopaaRead
import Derived.Lib.LazyBuf
namespace Go.Proofs.Ytafkimhnllnopaa
open Go.RowKit

/-- A copy of bytes. -/
theorem clone_any (w : World) (g off n cap : Nat) (bs : List UInt8) (hb : BytesAt w.heap.size w (some ⟨g, off, none⟩) bs) (hn : bs.length = n) (hlen : n ≤ 140737488355328) :
    Calls Try.prog 33 #[.slice (some ⟨g, off, none⟩) n cap] w fun e w' => ∃ q c, e = .returned (.slice (some ⟨q, 0, none⟩) n c) ∧ w'.ownsRow w.heap.size 5 1 (.slice (some ⟨q, 0, none⟩) n c) n (bs.map encB) ∧ Below w.heap.size w w' := by
  subst hn
  have HB : Hid (BytesAt w.heap.size w (some ⟨g, off, none⟩) bs) := hb
  have HE : Hid (Below w.heap.size w (w.alloc (.cells #[] 5))) := (Below.refl _ _).alloc (Nat.le_refl _) _
  clear hb
  have hnil : ∀ W, (binOp .eql 27 (.slice (some ⟨g, off, none⟩) bs.length cap) (.slice none 0 0)).run Try.prog W = .ok (.bool false) W := fun W => run_eql_slice_nil W 27 5 _ _ _ Try.underlying27
  go_enter Try.func33, Try.ntmps33
  go_wp2_with (first
    | (at_builtin; refine wpList_append_bytes rfl _ _ rfl w.heap.size w.heap.size 0 0 [] rfl (owns_empty w) (some ⟨g, off, none⟩) cap bs rfl (HB.out.here HE.out) (fun h => by cases h) (by omega) (by simp) ?_
       intro q c w2 ho hg
       rw [Nat.zero_add, List.nil_append] at ho
       rw [Nat.zero_add]
       have HO : Hid (w2.ownsRow w.heap.size 5 1 (.slice (some ⟨q, 0, none⟩) bs.length c) bs.length (bs.map encB)) := ho
       have HB2 : Hid (Below w.heap.size w w2) := HE.out.grown hg (by simp) (fun k e => by cases e; exact Nat.le_refl _)
       clear ho hg))
  go_ret
  exact ⟨q, c, rfl, HO.out, HB2.out⟩

theorem own_keep {w w' : World} {base base' q n c : Nat} {xs : List Value} (h : w.ownsRow base 5 1 (.slice (some ⟨q, 0, none⟩) n c) n xs) (hq : w'.heap[q]? = w.heap[q]?) (hb : base' ≤ base) : w'.ownsRow base' 5 1 (.slice (some ⟨q, 0, none⟩) n c) n xs := by
  obtain ⟨h1, h2⟩ := h
  rcases h2 with ⟨e, _⟩ | ⟨g, cap, cur, e, h3, h4, h5⟩
  · cases e
  · cases e
    exact ⟨h1, .inr ⟨q, c, cur, rfl, by omega, by rw [hq]; exact h4, h5⟩⟩
/-- Is the sum right? -/
def sumB (bs : List UInt8) : Bool := bev (bs.drop (bs.length - 8)) == (rb (sumMore 0#64 (bs.take (bs.length - 8)))).toNat

/-- Bytes of a page's form whose sum is right are a page. -/
theorem form_sealed {bs : List UInt8} (h : formB bs = true) (hs : sumB bs = true) : bs = sealed bs.length (kindAt bs) (numAt bs) (genAt bs) (payOf bs) := by
  obtain ⟨h1, h2, h3, h4, h5, h6⟩ := form_body h
  have hb := sized_bounds h4
  rw [sealed, ← h1]
  have e : bs.drop (bs.length - 8) = be 8 (rb (sumMore 0#64 (bs.take (bs.length - 8)))).toNat := by
    have e1 : bev (bs.drop (bs.length - 8)) = (rb (sumMore 0#64 (bs.take (bs.length - 8)))).toNat := by simpa [sumB] using hs
    rw [← e1]
    have e2 := be_bev (bs.drop (bs.length - 8))
    rw [show (bs.drop (bs.length - 8)).length = 8 by simp; omega] at e2
    exact e2.symm
  rw [← e, List.take_append_drop]
theorem sealed_form {size k n g : Nat} {p : List UInt8} (hs : sizedB size = true) (hm : mayB k n = true) (hg : g < 18446744073709551616) (hp : p.length + 32 ≤ size) :
    formB (sealed size k n g p) = true ∧ sumB (sealed size k n g p) = true ∧ kindAt (sealed size k n g p) = k ∧ numAt (sealed size k n g p) = n ∧ genAt (sealed size k n g p) = g ∧ payOf (sealed size k n g p) = p := by
  obtain ⟨h1, h2, h3, h4, h5⟩ := said_body size k n g p (be 8 (rb (sumMore 0#64 (body size k n g p))).toNat) hs hm hg hp (be_length ..)
  refine ⟨h1, ?_, h2, h3, h4, h5⟩
  have hl := sealed_length size k n g p hp
  unfold sumB
  rw [hl, sealed_take _ _ _ _ _ hp, sealed_drop _ _ _ _ _ hp, bev_be]
  have := (rb (sumMore 0#64 (body size k n g p))).isLt
  rw [Nat.mod_eq_of_lt (by simpa using this)]
  simp

/-- What Open answers: which error, if any. -/
def openE (bs : List UInt8) (number : Int) : Int :=
  if formB bs then (if sumB bs then (if (numAt bs : Int) = number then 0 else 33) else 34) else 32

set_option maxHeartbeats 1600000 in
set_option maxRecDepth 100000 in
theorem open_any (w : World) (a : Option Addr) (cap : Nat) (bs : List UInt8) (number : Int) (hb : BytesAt w.heap.size w a bs) (hcap : bs.length ≤ cap) (hlen : bs.length ≤ 140737488355328) :
    Calls Try.prog 20 #[.slice a bs.length cap, .int .i64 number] w fun e w' => Below w.heap.size w w' ∧
      ((openE bs number ≠ 0 ∧ e = .returned (.tuple #[headV 0 0 0, .slice none 0 0, .int .i64 (openE bs number)])) ∨
       (openE bs number = 0 ∧ ∃ q c, e = .returned (.tuple #[headV (kindAt bs) (numAt bs) (genAt bs), .slice (some ⟨q, 0, none⟩) (lenAt bs) c, .int .i64 0]) ∧ w'.ownsRow w.heap.size 5 1 (.slice (some ⟨q, 0, none⟩) (lenAt bs) c) (lenAt bs) ((payOf bs).map encB))) := by
  have HB : Hid (BytesAt w.heap.size w a bs) := hb
  clear hb
  have hbr : Below w.heap.size w (w.alloc (.cells #[.int .i64 0, .int .i64 0, .int .u64 0] 26)) := (Below.refl _ _).alloc (Nat.le_refl _) _
  have HBR : Hid _ := hbr
  clear hbr
  go_enter Try.func20, Try.ntmps20
  go_wp2_with fail
  refine (read_any _ _ _ bs (HB.out.here HBR.out) hcap hlen).mono ?_
  rintro _ w1 ⟨hb1, hor⟩
  have hrow1 : w1.heap[w.heap.size]? = some (.cells #[.int .i64 0, .int .i64 0, .int .u64 0] 26 (0, 0)) := by
    rw [hb1.block _ (by simp)]
    exact heap_alloc_last w _
  have HB1 : Hid (Below w.heap.size w w1) := HBR.out.trans (hb1.mono HBR.out.size)
  clear hb1
  rcases hor with ⟨hf, rfl⟩ | ⟨hf, gb, off, rfl, rfl⟩
  · have HO : Hid (openE bs number = 32) := by show _ = _; simp [openE, hf]
    clear hf
    unfold headV
    obtain ⟨p0, p1, p2⟩ := head_cells hrow1
    have f0 := row_frozen hrow1 0
    have f1 := row_frozen hrow1 1
    have f2 := row_frozen hrow1 2
    have HR1 : Hid _ := hrow1
    have hlt1 : w.heap.size < w1.heap.size := (Array.getElem?_eq_some_iff.1 hrow1).1
    clear hrow1
    go_wp2
    obtain ⟨W, hW⟩ : ∃ W, W = ((((w1.setCell ⟨w.heap.size, 0, none⟩ (.int .i64 0)).setCell ⟨w.heap.size, 1, none⟩ (.int .i64 0)).setCell ⟨w.heap.size, 2, none⟩ (.int .u64 0)).alloc (.cells #[.int .i64 0, .int .i64 0, .int .u64 0] 26)) := ⟨_, rfl⟩
    have hWr : W.heap[w.heap.size]? = some (.cells #[.int .i64 0, .int .i64 0, .int .u64 0] 26 (0, 0)) := by rw [hW, Below.heap_alloc _ _ _ (by simpa using hlt1)]; exact head_row _ _ _ HR1.out
    have HWB : Hid (Below w.heap.size w W) := by
      rw [hW]
      have hx : Below w.heap.size w (((w1.setCell ⟨w.heap.size, 0, none⟩ (.int .i64 0)).setCell ⟨w.heap.size, 1, none⟩ (.int .i64 0)).setCell ⟨w.heap.size, 2, none⟩ (.int .u64 0)) := ((HB1.out.setCell (Nat.le_refl _) _).setCell (Nat.le_refl _) _).setCell (Nat.le_refl _) _
      exact hx.alloc hx.size _
    rw [← hW]
    clear p0 p1 p2
    obtain ⟨p0, p1, p2⟩ := head_cells hWr
    refine bodyPost_ret (v := .tuple #[headV 0 0 0, .slice none 0 0, .int .i64 32]) (by simp [results, Try.results20, go_sem, headV, p0, p1, p2]) rfl ⟨HWB.out, .inl ⟨by rw [HO.out]; decide, by rw [HO.out]⟩⟩
  · have hsz : sizedB bs.length = true := by
      simp only [formB, head1, Bool.and_eq_true] at hf
      exact hf.1.1
    have hz := sized_bounds hsz
    have HF : Hid _ := hf
    clear hf hsz
    unfold headV
    obtain ⟨m, hm⟩ : ∃ m, Hid (bs.length = m + 8) := ⟨bs.length - 8, by show _ = _; omega⟩
    have hml : (m : Int) ≤ (bs.length : Int) := by have := hm.out; omega
    have hcm : ¬ cap = m := by have := hm.out; omega
    have hcm2 : ¬ cap - m = 0 := by have := hm.out; omega
    have hcm3 : ¬ (cap : Int) = (m : Int) := by omega
    obtain ⟨Wh, hWh⟩ : ∃ Wh, Wh = w1.alloc (.cells #[.int .i64 (kindAt bs : Int), .int .i64 (numAt bs : Int), .int .u64 (genAt bs : Int)] 26) := ⟨_, rfl⟩
    have hbh : Below w.heap.size w Wh := by rw [hWh]; exact HB1.out.alloc HB1.out.size _
    have HBY : Hid (BytesAt Wh.heap.size Wh (some ⟨gb, off, none⟩) bs) := HB.out.here hbh
    have HBH : Hid (Below w.heap.size w Wh) := hbh
    have hrh : Wh.heap[w.heap.size]? = some (.cells #[.int .i64 0, .int .i64 0, .int .u64 0] 26 (0, 0)) := by rw [hWh, Below.heap_alloc _ _ _ (Array.getElem?_eq_some_iff.1 hrow1).1]; exact hrow1
    have hhh : Wh.heap[w1.heap.size]? = some (.cells #[.int .i64 (kindAt bs : Int), .int .i64 (numAt bs : Int), .int .u64 (genAt bs : Int)] 26 (0, 0)) := by rw [hWh]; exact heap_alloc_last _ _
    have HRH : Hid _ := hrh
    have HHH : Hid _ := hhh
    have HLT : Hid (w.heap.size < w1.heap.size) := (Array.getElem?_eq_some_iff.1 hrow1).1
    clear hbh hrow1 hrh hhh
    go_wp2_with fail
    rw [← hWh]
    clear hWh
    obtain ⟨b1, hb1⟩ : ∃ b1, b1 = w1.heap.size := ⟨_, rfl⟩
    rw [← hb1] at HHH HLT ⊢
    clear hb1
    have hne : ¬ b1 = w.heap.size := by have := HLT.out; omega
    have hne2 : ¬ w.heap.size = b1 := by have := HLT.out; omega
    refine (sumAt_as _ _ _ m _ hm.out hlen).mono ?_
    rintro _ wx ⟨rfl, hwx⟩
    rw [hwx]
    clear hwx
    go_wp2_with fail
    refine (load_as _ gb off _ _ _ bs m (by first | rfl | exact if_neg (by have := hm.out; omega)) HBY.out (by omega) (by have := hm.out; omega)).mono ?_
    rintro _ wx ⟨rfl, hwx⟩
    rw [hwx]
    clear hwx
    go_wp2_with fail
    refine (sumOf_any _ _ _ _ bs HBY.out rfl (by omega) hcap hlen).mono ?_
    rintro _ w4 ⟨rfl, hb4⟩
    have hr4 : w4.heap[w.heap.size]? = some (.cells #[.int .i64 0, .int .i64 0, .int .u64 0] 26 (0, 0)) := by rw [hb4.block _ (Array.getElem?_eq_some_iff.1 HRH.out).1]; exact HRH.out
    have hh4 : w4.heap[b1]? = some (.cells #[.int .i64 (kindAt bs : Int), .int .i64 (numAt bs : Int), .int .u64 (genAt bs : Int)] 26 (0, 0)) := by rw [hb4.block _ (Array.getElem?_eq_some_iff.1 HHH.out).1]; exact HHH.out
    have HB4 : Hid (Below w.heap.size w w4) := HBH.out.trans (hb4.mono HBH.out.size)
    have hlt4 : w.heap.size < w4.heap.size := (Array.getElem?_eq_some_iff.1 hr4).1
    have hlt5 : b1 < w4.heap.size := (Array.getElem?_eq_some_iff.1 hh4).1
    have HR4 : Hid _ := hr4
    have HH4 : Hid _ := hh4
    obtain ⟨p0, p1, p2⟩ := head_cells hr4
    obtain ⟨k0, k1, k2⟩ := head_cells hh4
    have f0 := row_frozen hr4 0
    have f1 := row_frozen hr4 1
    have f2 := row_frozen hr4 2
    clear hb4 hr4 hh4
    have hsb : sumB bs = (bev ((bs.drop m).take (bs.length - m)) == (rb (sumMore 0#64 (bs.take (bs.length - 8)))).toNat) := by
      have h8 : bs.length - 8 = m := by have := hm.out; omega
      rw [sumB, h8, List.take_of_length_le (l := bs.drop m) (by simp)]
    have HPAY : Hid (BytesAt w.heap.size w (some ⟨gb, off + 24, none⟩) (payOf bs)) := HB.out.part 24 (lenAt bs)
    have HPL : Hid ((payOf bs).length = lenAt bs) := (form_body HF.out).2.1
    generalize bev ((bs.drop m).take (bs.length - m)) = x at hsb ⊢
    generalize (rb (sumMore 0#64 (bs.take (bs.length - 8)))).toNat = y at hsb ⊢
    by_cases hxy : x = y
    · subst hxy
      have HS : Hid (sumB bs = true) := by show _ = _; rw [hsb]; simp
      clear hsb
      by_cases hnum : (numAt bs : Int) = number
      · subst hnum
        have HO : Hid (openE bs (numAt bs) = 0) := by show _ = _; simp [openE, HF.out, HS.out]
        go_wp2_with fail
        obtain ⟨Wa, hWa⟩ : ∃ Wa, Wa = w4.alloc (.cells #[.int .i64 (kindAt bs : Int), .int .i64 (numAt bs : Int), .int .u64 (genAt bs : Int)] 26) := ⟨_, rfl⟩
        rw [← hWa]
        have hra : Wa.heap[w.heap.size]? = some (.cells #[.int .i64 0, .int .i64 0, .int .u64 0] 26 (0, 0)) := by rw [hWa, Below.heap_alloc _ _ _ hlt4]; exact HR4.out
        have hha : Wa.heap[b1]? = some (.cells #[.int .i64 (kindAt bs : Int), .int .i64 (numAt bs : Int), .int .u64 (genAt bs : Int)] 26 (0, 0)) := by rw [hWa, Below.heap_alloc _ _ _ hlt5]; exact HH4.out
        have HBa : Hid (Below w.heap.size w Wa) := by rw [hWa]; exact HB4.out.alloc HB4.out.size _
        have HPa : Hid (BytesAt Wa.heap.size Wa (some ⟨gb, off + 24, none⟩) (payOf bs)) := HPAY.out.here HBa.out
        have HRa : Hid _ := hra
        have HHa : Hid _ := hha
        clear hWa p0 p1 p2 k0 k1 k2 f0 f1 f2 HR4 HH4 hlt4 hlt5
        obtain ⟨k0, k1, k2⟩ := head_cells hha
        obtain ⟨p0, p1, p2⟩ := head_cells hra
        have f0 := row_frozen hra 0
        have f1 := row_frozen hra 1
        have f2 := row_frozen hra 2
        clear hra hha
        have hll : lenAt bs ≤ 140737488355328 := by have := HPL.out; have := (form_body HF.out).2.2.1; omega
        go_region_held_law (fun W => W.cell? ⟨b1, 0, none⟩ = some (.int .i64 (kindAt bs : Int)) ∧ W.cell? ⟨b1, 1, none⟩ = some (.int .i64 (numAt bs : Int)) ∧ W.cell? ⟨b1, 2, none⟩ = some (.int .u64 (genAt bs : Int))) (go_keep)
          (first
            | (go_at_call 33; refine (clone_any Wa.drew gb (off + 24) (lenAt bs) _ (payOf bs) HPa.out HPL.out hll).mono ?_
               rintro _ w6 ⟨q, c, rfl, ho6, hb6⟩
               have hr6 : w6.heap[w.heap.size]? = some (.cells #[.int .i64 0, .int .i64 0, .int .u64 0] 26 (0, 0)) := (hb6.block _ (Array.getElem?_eq_some_iff.1 HRa.out).1).trans HRa.out
               have hh6 : w6.heap[b1]? = some (.cells #[.int .i64 (kindAt bs : Int), .int .i64 (numAt bs : Int), .int .u64 (genAt bs : Int)] 26 (0, 0)) := (hb6.block _ (Array.getElem?_eq_some_iff.1 HHa.out).1).trans HHa.out
               obtain ⟨n0, n1, n2⟩ := head_cells hh6
               obtain ⟨o0, o1, o2⟩ := head_cells hr6
               have g0 := row_frozen hr6 0
               have g1 := row_frozen hr6 1
               have g2 := row_frozen hr6 2
               have HR6 : Hid _ := hr6
               have HB6 : Hid (Below w.heap.size w w6) := HBa.out.drew.trans (hb6.mono HBa.out.size)
               have HO6 : Hid (w6.ownsRow Wa.heap.size 5 1 (.slice (some ⟨q, 0, none⟩) (lenAt bs) c) (lenAt bs) ((payOf bs).map encB)) := ho6
               clear hb6 ho6 hr6 hh6))
        go_wp2
        obtain ⟨W, hW⟩ : ∃ W, W = (((w6.setCell ⟨w.heap.size, 0, none⟩ (.int .i64 (kindAt bs : Int))).setCell ⟨w.heap.size, 1, none⟩ (.int .i64 (numAt bs : Int))).setCell ⟨w.heap.size, 2, none⟩ (.int .u64 (genAt bs : Int))) := ⟨_, rfl⟩
        have hWr : W.heap[w.heap.size]? = some (.cells #[.int .i64 (kindAt bs : Int), .int .i64 (numAt bs : Int), .int .u64 (genAt bs : Int)] 26 (0, 0)) := by rw [hW]; exact head_row _ _ _ HR6.out
        have HWB : Hid (Below w.heap.size w W) := by rw [hW]; exact ((HB6.out.setCell (Nat.le_refl _) _).setCell (Nat.le_refl _) _).setCell (Nat.le_refl _) _
        have hqb : Wa.heap.size ≤ q := own_base HO6.out
        have hwa : w.heap.size < Wa.heap.size := (Array.getElem?_eq_some_iff.1 HRa.out).1
        have HWO : Hid (W.ownsRow w.heap.size 5 1 (.slice (some ⟨q, 0, none⟩) (lenAt bs) c) (lenAt bs) ((payOf bs).map encB)) := by
          refine own_keep HO6.out ?_ (by omega)
          rw [hW, heap_set_other _ (by omega), heap_set_other _ (by omega), heap_set_other _ (by omega)]
        rw [← hW]
        clear p0 p1 p2
        obtain ⟨p0, p1, p2⟩ := head_cells hWr
        refine bodyPost_ret (v := .tuple #[headV (kindAt bs) (numAt bs) (genAt bs), .slice (some ⟨q, 0, none⟩) (lenAt bs) c, .int .i64 0]) (by simp [results, Try.results20, go_sem, headV, p0, p1, p2]) rfl ⟨HWB.out, .inr ⟨HO.out, q, c, rfl, HWO.out⟩⟩
      · have HO : Hid (openE bs number = 33) := by show _ = _; simp [openE, HF.out, HS.out, hnum]
        have hnb : ((numAt bs : Int) == number) = false := by rw [beq_eq_false_iff_ne]; exact hnum
        go_wp2
        obtain ⟨W, hW⟩ : ∃ W, W = ((((w4.setCell ⟨w.heap.size, 0, none⟩ (.int .i64 0)).setCell ⟨w.heap.size, 1, none⟩ (.int .i64 0)).setCell ⟨w.heap.size, 2, none⟩ (.int .u64 0)).alloc (.cells #[.int .i64 (kindAt bs : Int), .int .i64 number, .int .u64 (genAt bs : Int)] 26)) := ⟨_, rfl⟩
        have hWr : W.heap[w.heap.size]? = some (.cells #[.int .i64 0, .int .i64 0, .int .u64 0] 26 (0, 0)) := by rw [hW, Below.heap_alloc _ _ _ (by simpa using hlt4)]; exact head_row _ _ _ HR4.out
        have HWB : Hid (Below w.heap.size w W) := by
          rw [hW]
          have hx : Below w.heap.size w (((w4.setCell ⟨w.heap.size, 0, none⟩ (.int .i64 0)).setCell ⟨w.heap.size, 1, none⟩ (.int .i64 0)).setCell ⟨w.heap.size, 2, none⟩ (.int .u64 0)) := ((HB4.out.setCell (Nat.le_refl _) _).setCell (Nat.le_refl _) _).setCell (Nat.le_refl _) _
          exact hx.alloc hx.size _
        rw [← hW]
        clear p0 p1 p2
        obtain ⟨p0, p1, p2⟩ := head_cells hWr
        refine bodyPost_ret (v := .tuple #[headV 0 0 0, .slice none 0 0, .int .i64 33]) (by simp [results, Try.results20, go_sem, headV, p0, p1, p2]) rfl ⟨HWB.out, .inl ⟨by rw [HO.out]; decide, by rw [HO.out]⟩⟩
    · have hxz : ((x : Int) == (y : Int)) = false := by rw [beq_eq_false_iff_ne]; omega
      have hxn : ((x : Int) != (y : Int)) = true := by simp [bne, hxz]
      have HS : Hid (sumB bs = false) := by show _ = _; rw [hsb]; simpa using hxy
      have HO : Hid (openE bs number = 34) := by show _ = _; simp [openE, HF.out, HS.out]
      clear hsb
      go_wp2
      obtain ⟨W, hW⟩ : ∃ W, W = (((w4.setCell ⟨w.heap.size, 0, none⟩ (.int .i64 0)).setCell ⟨w.heap.size, 1, none⟩ (.int .i64 0)).setCell ⟨w.heap.size, 2, none⟩ (.int .u64 0)) := ⟨_, rfl⟩
      have hWr : W.heap[w.heap.size]? = some (.cells #[.int .i64 0, .int .i64 0, .int .u64 0] 26 (0, 0)) := by rw [hW]; exact head_row _ _ _ HR4.out
      have HWB : Hid (Below w.heap.size w W) := by rw [hW]; exact ((HB4.out.setCell (Nat.le_refl _) _).setCell (Nat.le_refl _) _).setCell (Nat.le_refl _) _
      rw [← hW]
      clear p0 p1 p2
      obtain ⟨p0, p1, p2⟩ := head_cells hWr
      refine bodyPost_ret (v := .tuple #[headV 0 0 0, .slice none 0 0, .int .i64 34]) (by simp [results, Try.results20, go_sem, headV, p0, p1, p2]) rfl ⟨HWB.out, .inl ⟨by rw [HO.out]; decide, by rw [HO.out]⟩⟩
end Go.Proofs.Ytafkimhnllnopaa
