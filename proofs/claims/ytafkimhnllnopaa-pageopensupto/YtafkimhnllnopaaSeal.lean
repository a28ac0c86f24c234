/- Seal: the contract. -/
import Derived.Test.YtafkimhnllnopaaRb
import Derived.Laws.CopyOwn
import Derived.Deep.RegionHeldLaw
namespace Go.Proofs.Ytafkimhnllnopaa
open Go.RowKit

theorem patch_one (L : List UInt8) (o : Nat) (c : UInt8) (h : o < L.length) : L.set o c = patch L o [c] := by
  have := patch_cons L o c [] (by simp; omega)
  rw [patch_nil] at this
  exact this
theorem splice_patch (L : List UInt8) (o : Nat) (p : List UInt8) : splice (L.map encB) o (p.map encB) = (patch L o p).map encB := by
  simp [splice, patch, List.map_take, List.map_drop]

/-- A page. -/
def sealed (size k n g : Nat) (p : List UInt8) : List UInt8 := body size k n g p ++ be 8 (rb (sumMore 0#64 (body size k n g p))).toNat
theorem sealed_length (size k n g : Nat) (p : List UInt8) (h : p.length + 32 ≤ size) : (sealed size k n g p).length = size := by
  rw [sealed, List.length_append, body_length _ _ _ _ _ h, be_length]; omega
theorem sealed_take (size k n g : Nat) (p : List UInt8) (h : p.length + 32 ≤ size) : (sealed size k n g p).take (size - 8) = body size k n g p := by
  rw [sealed, List.take_left' (body_length _ _ _ _ _ h)]
theorem sealed_drop (size k n g : Nat) (p : List UInt8) (h : p.length + 32 ≤ size) : (sealed size k n g p).drop (size - 8) = be 8 (rb (sumMore 0#64 (body size k n g p))).toNat := by
  rw [sealed, List.drop_left' (body_length _ _ _ _ _ h)]

theorem step1 (s : Nat) (h : 32 ≤ s) : patch (zeros s) 0 (be 2 16985) = [66, 89] ++ zeros (s - 2) := by
  have := patch_zeros [] s 0 (be 2 16985) 0 rfl (by rw [be_length]; omega)
  simp only [List.nil_append, be_length] at this
  rw [this, be2_mark]
  rfl
theorem step2 (s : Nat) (c : UInt8) (h : 32 ≤ s) : ([66, 89] ++ zeros (s - 2)).set 2 c = ([66, 89] ++ [c]) ++ zeros (s - 3) := by
  rw [patch_one _ _ _ (by simp [zeros]; omega), patch_zeros [66, 89] (s - 2) 0 [c] 2 rfl (by simp; omega)]
  simp [zeros]
  omega
theorem step3 (s n : Nat) (c : UInt8) (h : 32 ≤ s) : patch (([66, 89] ++ [c]) ++ zeros (s - 3)) 4 (be 4 n) = ([66, 89] ++ [c] ++ [0] ++ be 4 n) ++ zeros (s - 8) := by
  rw [patch_zeros _ (s - 3) 1 (be 4 n) 4 rfl (by rw [be_length]; omega), be_length, show s - 3 - 1 - 4 = s - 8 by omega]
  simp [zeros]
theorem step4 (s n g : Nat) (c : UInt8) (h : 32 ≤ s) : patch (([66, 89] ++ [c] ++ [0] ++ be 4 n) ++ zeros (s - 8)) 8 (be 8 g) = ([66, 89] ++ [c] ++ [0] ++ be 4 n ++ be 8 g) ++ zeros (s - 16) := by
  rw [patch_zeros _ (s - 8) 0 (be 8 g) 8 (by simp [be_length]) (by rw [be_length]; omega), be_length, show s - 8 - 0 - 8 = s - 16 by omega]
  simp [zeros]
theorem step5 (s n g l : Nat) (c : UInt8) (h : 32 ≤ s) : patch (([66, 89] ++ [c] ++ [0] ++ be 4 n ++ be 8 g) ++ zeros (s - 16)) 16 (be 4 l) = ([66, 89] ++ [c] ++ [0] ++ be 4 n ++ be 8 g ++ be 4 l) ++ zeros (s - 20) := by
  rw [patch_zeros _ (s - 16) 0 (be 4 l) 16 (by simp [be_length]) (by rw [be_length]; omega), be_length, show s - 16 - 0 - 4 = s - 20 by omega]
  simp [zeros]
theorem step6 (s n g k : Nat) (p : List UInt8) (h : p.length + 32 ≤ s) : patch (([66, 89] ++ [UInt8.ofNat k] ++ [0] ++ be 4 n ++ be 8 g ++ be 4 p.length) ++ zeros (s - 20)) 24 p = body s k n g p ++ zeros 8 := by
  rw [patch_zeros _ (s - 20) 4 p 24 (by simp [be_length]) (by omega)]
  have e : zeros (s - 20 - 4 - p.length) = zeros (s - 32 - p.length) ++ zeros 8 := by rw [← zeros_add]; congr 1; omega
  rw [e]
  simp [body, front]
theorem step7 (B x : List UInt8) (o : Nat) (ho : o = B.length) (hx : x.length = 8) : patch (B ++ zeros 8) o x = B ++ x := by
  rw [patch_zeros B 8 0 x o (by omega) (by omega), hx]
  simp [zeros]

theorem sumOf_any (w : World) (a : Option Addr) (n cap : Nat) (bs : List UInt8) (hb : BytesAt w.heap.size w a bs) (hn : bs.length = n) (h8 : 8 ≤ n) (hc : n ≤ cap) (hlen : n ≤ 140737488355328) :
    Calls Try.prog 25 #[.slice a n cap] w fun e w' => e = .returned (.int .u64 ((rb (sumMore 0#64 (bs.take (n - 8)))).toNat : Int)) ∧ Below w.heap.size w w' := by
  have HB : Hid (BytesAt w.heap.size w a bs) := hb
  clear hb
  obtain ⟨m, rfl⟩ : ∃ m, n = m + 8 := ⟨n - 8, by omega⟩
  have hm : ((m + 8 : Nat) : Int) - 8 = (m : Int) := by omega
  go_enter Try.func25, Try.ntmps25
  go_wp2_with fail
  refine (sumAt_any _ _ _ _ hlen).mono ?_
  rintro _ _ ⟨rfl, rfl⟩
  rw [hm]
  have hmc : (m : Int) ≤ (cap : Int) := by omega
  go_wp2_with fail
  refine (of_len _ _ m _ (bs.take m) (HB.out.take m) (by simp; omega) (by omega)).mono ?_
  rintro _ w1 ⟨rfl, hb1⟩
  have HB1 : Hid _ := hb1
  clear hb1
  go_wp2_with fail
  refine (rev8_any _ _).mono ?_
  rintro _ _ ⟨rfl, rfl⟩
  go_wp2
  go_ret
  exact ⟨rfl, HB1.out⟩

theorem seal_arg (z k n g : Int) (a : Option Addr) (l cap : Nat) (w : World) (h : sizedB z = false ∨ mayB k n = false) :
    Calls Try.prog 11 #[.int .i64 z, headV k n g, .slice a l cap] w fun e w' => e = .returned (.tuple #[.slice none 0 0, .int .i64 1]) ∧ Below w.heap.size w w' := by
  unfold headV
  have hb : Below w.heap.size w (w.alloc (.cells #[.int .i64 k, .int .i64 n, .int .u64 g] 26)) := (Below.refl _ _).alloc (Nat.le_refl _) _
  have HB : Hid _ := hb
  clear hb
  go_enter Try.func11, Try.ntmps11
  go_wp2_with fail
  refine (room_any _ _).mono ?_
  rintro _ _ ⟨rfl, rfl⟩
  cases hs : sizedB z with
  | false =>
    rw [room_other hs]
    clear h hs
    go_wp2
    go_ret2
    exact ⟨rfl, HB.out⟩
  | true =>
    rw [room_sized hs]
    have hm : mayB k n = false := by rcases h with h | h; (rw [hs] at h; cases h); exact h
    have hz0 : (z - 32 == 0) = false := by rw [beq_eq_false_iff_ne]; have := sized_bounds hs; omega
    have hz1 := sized_bounds hs
    clear h hs
    go_wp2_with fail
    refine (mayBe_any k n g _).mono ?_
    rintro _ w2 ⟨rfl, hb2⟩
    rw [hm]
    have HB2 : Hid (Below w.heap.size w w2) := HB.out.trans (hb2.mono HB.out.size)
    clear hb2
    go_wp2
    go_ret2
    exact ⟨rfl, HB2.out⟩
theorem seal_long (z k n g : Int) (a : Option Addr) (l cap : Nat) (w : World) (hs : sizedB z = true) (hm : mayB k n = true) (hl : z - 32 < l) :
    Calls Try.prog 11 #[.int .i64 z, headV k n g, .slice a l cap] w fun e w' => e = .returned (.tuple #[.slice none 0 0, .int .i64 31]) ∧ Below w.heap.size w w' := by
  unfold headV
  have hb : Below w.heap.size w (w.alloc (.cells #[.int .i64 k, .int .i64 n, .int .u64 g] 26)) := (Below.refl _ _).alloc (Nat.le_refl _) _
  have HB : Hid _ := hb
  clear hb
  go_enter Try.func11, Try.ntmps11
  go_wp2_with fail
  refine (room_any _ _).mono ?_
  rintro _ _ ⟨rfl, rfl⟩
  rw [room_sized hs]
  have hz0 : (z - 32 == 0) = false := by rw [beq_eq_false_iff_ne]; have := sized_bounds hs; omega
  have hz1 := sized_bounds hs
  clear hs
  go_wp2_with fail
  refine (mayBe_any k n g _).mono ?_
  rintro _ w2 ⟨rfl, hb2⟩
  rw [hm]
  have HB2 : Hid (Below w.heap.size w w2) := HB.out.trans (hb2.mono HB.out.size)
  clear hb2
  go_wp2
  go_ret2
  exact ⟨rfl, HB2.out⟩

theorem store_as (B : Nat) (w0 w : World) (g off k cap n : Nat) (ad : Option Addr) (m : Int) (L : List UInt8) (had : ad = some ⟨g, off, none⟩) (hm : m = (n : Int)) (hr : RowIs w g L) (h0 : Below B w0 w) (hB : B ≤ g) (hk : off + k ≤ L.length) (hk8 : k ≤ 8) :
    Calls Try.prog 23 #[.slice ad k cap, .int .u64 m] w fun e w' => e = .returned (.tuple #[]) ∧ RowIs w' g (patch L off (be k n)) ∧ Below B w0 w' := by
  subst hm
  subst had
  exact store_any B w0 w g off k cap n L hr h0 hB hk hk8
theorem store_end (B : Nat) (w0 w : World) (g off k cap n : Nat) (ad : Option Addr) (m : Int) (L : List UInt8) (had : ad = some ⟨g, off, none⟩) (hk0 : k = 8) (hm : m = (n : Int)) (hr : RowIs w g L) (h0 : Below B w0 w) (hB : B ≤ g) (hk : off + 8 ≤ L.length) :
    Calls Try.prog 23 #[.slice ad k cap, .int .u64 m] w fun e w' => e = .returned (.tuple #[]) ∧ RowIs w' g (patch L off (be 8 n)) ∧ Below B w0 w' := by
  subst hm
  subst had
  subst hk0
  exact store_any B w0 w g off 8 cap n L hr h0 hB hk (by decide)
theorem sumAt_as (a : Option Addr) (n cap m : Nat) (w : World) (hm : n = m + 8) (hn : n ≤ 140737488355328) : Calls Try.prog 24 #[.slice a n cap] w fun e w' => e = .returned (.int .i64 (m : Int)) ∧ w' = w := by
  refine (sumAt_any a n cap w hn).mono ?_
  rintro _ _ ⟨rfl, rfl⟩
  exact ⟨ret_int (by omega), rfl⟩
theorem wrap_nat (n : Nat) (h : n < 18446744073709551616) : IntKind.u64.wrap (n : Int) = (n : Int) := by rw [wrap64u]; omega
theorem copy_src {B : Nat} {w : World} {a : Option Addr} {bs : List UInt8} (hb : BytesAt B w a bs) (g o : Nat) :
    0 < (bs.map encB).length → some (⟨g, o, none⟩ : Addr) = some ⟨g, o, none⟩ ∧ ∃ ad, a = some ad ∧ ∀ (j : Nat) (v : Value), (bs.map encB)[j]? = some v → w.cell? (ad.add j) = some v := by
  intro hpos
  refine ⟨rfl, ?_⟩
  have h0 : 0 < bs.length := by simpa using hpos
  obtain ⟨c, hc⟩ : ∃ c, bs[0]? = some c := ⟨bs[0], List.getElem?_eq_getElem h0⟩
  obtain ⟨g, off, rfl, _, _⟩ := hb 0 c hc
  refine ⟨_, rfl, fun j v hv => ?_⟩
  rw [List.getElem?_map] at hv
  cases e : bs[j]? with
  | none => rw [e] at hv; cases hv
  | some b =>
    rw [e] at hv
    cases hv
    obtain ⟨g', off', e1, _, hcell⟩ := hb j b e
    cases e1
    rw [add_at]
    exact hcell
theorem zeros_enc (s : Nat) : List.replicate s (Value.int .u8 0) = (zeros s).map encB := by simp [zeros, encB]

set_option maxHeartbeats 800000 in
set_option maxRecDepth 100000 in
theorem seal_ok (s k n g : Nat) (a : Option Addr) (cap : Nat) (p : List UInt8) (w : World) (hs : sizedB s = true) (hm : mayB k n = true) (hb : BytesAt w.heap.size w a p) (hp : p.length + 32 ≤ s) :
    Calls Try.prog 11 #[.int .i64 s, headV k n g, .slice a p.length cap] w fun e w' => ∃ q, e = .returned (.tuple #[.slice (some ⟨q, 0, none⟩) s s, .int .i64 0]) ∧ w.heap.size ≤ q ∧ RowIs w' q (sealed s k n g p) ∧ Below w.heap.size w w' := by
  unfold headV
  obtain ⟨i0, hi, hz0, hz1, hz2⟩ := info5'
  have hsz5 : (Try.prog.info? 5).map (·.size) = some 1 := by rw [hi]; simp [hz1]
  have HP : Hid (BytesAt w.heap.size w a p) := hb
  have hbb : Below w.heap.size w (w.alloc (.cells #[.int .i64 k, .int .i64 n, .int .u64 g] 26)) := (Below.refl _ _).alloc (Nat.le_refl _) _
  obtain ⟨wb, hwb⟩ : ∃ wb, wb = w.alloc (.cells #[.int .i64 k, .int .i64 n, .int .u64 g] 26) := ⟨_, rfl⟩
  have hbsz : wb.heap.size = w.heap.size + 1 := by rw [hwb]; simp
  rw [← hwb] at hbb
  have HW : Hid (Below w.heap.size w wb) := hbb
  have hbox : ∀ W, Below wb.heap.size wb W → W.cell? ⟨w.heap.size, 0, none⟩ = some (.int .i64 k) ∧ W.cell? ⟨w.heap.size, 1, none⟩ = some (.int .i64 n) ∧ W.cell? ⟨w.heap.size, 2, none⟩ = some (.int .u64 g) := fun W h => by
    have hh : wb.heap[w.heap.size]? = some (.cells #[.int .i64 k, .int .i64 n, .int .u64 g] 26 (0, 0)) := by rw [hwb]; exact heap_alloc_last _ _
    refine ⟨?_, ?_, ?_⟩
    all_goals
      rw [h.cell (by show w.heap.size < _; omega), row_cell hh]
      rfl
  have HX : Hid _ := hbox
  have hsb := sized_bounds hs
  have hmb := may_bounds hm
  clear hb hbb hbox
  go_enter Try.func11, Try.ntmps11
  go_wp2_with fail
  refine (room_any _ _).mono ?_
  rintro _ _ ⟨rfl, rfl⟩
  rw [room_sized hs]
  have hz0' : ((s : Int) - 32 == 0) = false := by rw [beq_eq_false_iff_ne]; omega
  clear hs
  go_wp2_with fail
  refine (mayBe_any k n g _).mono ?_
  rintro _ w2 ⟨rfl, hb2⟩
  rw [hm]
  rw [← hwb] at hb2
  have HB2 : Hid (Below wb.heap.size wb w2) := hb2
  clear hb2 hwb hm
  have hlong : ¬ ((s : Int) - 32 < (p.length : Int)) := by omega
  go_wp2_with (first
    | (at_make; refine wpList_make_full _ rfl _ _ 27 rfl w2.heap.size 5 i0 (.int .u8 0) 1 Try.underlying27 hi hz0 hz1 _ _ _ _ s rfl rfl rfl rfl (by rw [hz2]; omega) (by unfold maxLen; omega) (Nat.le_refl _) ?_
       intro w3 hown3 hg3
       rw [madeBytes, zeros_enc] at hown3
       have HR3 : Hid (RowIs w3 w2.heap.size (zeros s)) := own_full hown3
       have HB3 : Hid (Below wb.heap.size wb w3) := HB2.out.grown hg3 HB2.out.size (fun k h => by cases h)
       clear hown3 hg3))
  obtain ⟨q, hq⟩ : ∃ q, q = w2.heap.size := ⟨_, rfl⟩
  have HQ : Hid (wb.heap.size ≤ q) := by rw [hq]; exact HB2.out.size
  rw [← hq] at HR3 ⊢
  clear hq
  have hs32 : 32 ≤ s := by omega
  refine (store_as wb.heap.size wb _ q 0 2 _ 16985 _ _ (zeros s) rfl rfl HR3.out HB3.out HQ.out (by simp [zeros]; omega) (by decide)).mono ?_
  rintro _ w4 ⟨rfl, hr4, hb4⟩
  rw [step1 s hs32] at hr4
  have HR4 : Hid (RowIs w4 q ([66, 89] ++ zeros (s - 2))) := hr4
  have HB4 : Hid (Below wb.heap.size wb w4) := hb4
  obtain ⟨x4, _, _⟩ := HX.out w4 hb4
  obtain ⟨c2, hc2⟩ : ∃ c, ([66, 89] ++ zeros (s - 2))[2]? = some c := ⟨_, List.getElem?_eq_getElem (by simp [zeros]; omega)⟩
  have hcell := hr4.cell 2
  have hfz := hr4.frozen 2
  rw [hc2] at hcell
  have h2s : (2 : Int) < (s : Int) := by omega
  clear hr4 hb4 hc2
  go_wp2_with fail
  have hset := HR4.out.set 2 (UInt8.ofNat k)
  have hkk : ((UInt8.ofNat k).toNat : Int) = (k : Int) := by rw [UInt8.toNat_ofNat']; omega
  rw [step2 s _ hs32, hkk] at hset
  have hb5 : Below wb.heap.size wb (w4.setCell ⟨q, 2, none⟩ (.int .u8 (k : Int))) := HB4.out.setCell HQ.out _
  obtain ⟨w5, hw5⟩ : ∃ w5, w5 = w4.setCell ⟨q, 2, none⟩ (.int .u8 (k : Int)) := ⟨_, rfl⟩
  rw [← hw5] at hset hb5 ⊢
  have HR5 : Hid (RowIs w5 q (([66, 89] ++ [UInt8.ofNat k]) ++ zeros (s - 3))) := hset
  have HB5 : Hid (Below wb.heap.size wb w5) := hb5
  obtain ⟨_, x5, _⟩ := HX.out w5 hb5
  have h4s : (8 : Int) ≤ (s : Int) := by omega
  clear hset hb5 hw5 hkk hcell hfz x4 h2s
  go_region_held_law (fun W => W.cell? ⟨w.heap.size, 1, none⟩ = some (.int .i64 (n : Int))) (go_keep)
    (first
      | (go_at_call 23; refine (store_as wb.heap.size wb w5.drew q 4 4 _ n _ _ (([66, 89] ++ [UInt8.ofNat k]) ++ zeros (s - 3)) (by first | rfl | exact if_neg (by omega)) (by first | rfl | exact wrap_nat n (by omega)) HR5.out HB5.out.drew HQ.out (by simp [zeros]; omega) (by decide)).mono ?_
         rintro _ w6 ⟨rfl, hr6, hb6⟩
         have y6 := (HX.out w6 hb6).2.1))
  rw [step3 s n _ hs32] at hr6
  have HR6 : Hid (RowIs w6 q (([66, 89] ++ [UInt8.ofNat k] ++ [0] ++ be 4 n) ++ zeros (s - 8))) := hr6
  have HB6 : Hid (Below wb.heap.size wb w6) := hb6
  have x6 := (HX.out w6 hb6).2.2
  have h16s : (16 : Int) ≤ (s : Int) := by omega
  clear hr6 hb6 y6 x5
  go_wp2_with fail
  go_region_held_law (fun W => W.cell? ⟨w.heap.size, 2, none⟩ = some (.int .u64 (g : Int))) (go_keep)
    (first
      | (go_at_call 23; refine (store_as wb.heap.size wb w6.drew q 8 8 _ g _ _ (([66, 89] ++ [UInt8.ofNat k] ++ [0] ++ be 4 n) ++ zeros (s - 8)) (by first | rfl | exact if_neg (by omega)) rfl HR6.out HB6.out.drew HQ.out (by simp [zeros, be_length]; omega) (by decide)).mono ?_
         rintro _ w7 ⟨rfl, hr7, hb7⟩
         have y7 := (HX.out w7 hb7).2.2))
  rw [step4 s n g _ hs32] at hr7
  have HR7 : Hid (RowIs w7 q (([66, 89] ++ [UInt8.ofNat k] ++ [0] ++ be 4 n ++ be 8 g) ++ zeros (s - 16))) := hr7
  have HB7 : Hid (Below wb.heap.size wb w7) := hb7
  have h20s : (20 : Int) ≤ (s : Int) := by omega
  have h24s : (24 : Int) ≤ (s : Int) := by omega
  clear hr7 hb7 y7 x6
  go_wp2_with fail
  refine (store_as wb.heap.size wb w7 q 16 4 _ p.length _ _ _ rfl rfl HR7.out HB7.out HQ.out (by simp [zeros, be_length]; omega) (by decide)).mono ?_
  rintro _ w8 ⟨rfl, hr8, hb8⟩
  rw [step5 s n g _ _ hs32] at hr8
  have HR8 : Hid (RowIs w8 q (([66, 89] ++ [UInt8.ofNat k] ++ [0] ++ be 4 n ++ be 8 g ++ be 4 p.length) ++ zeros (s - 20))) := hr8
  have HB8 : Hid (Below wb.heap.size wb w8) := hb8
  have hmin : (p.map encB).length = Nat.min p.length (s - 24) := by rw [List.length_map]; exact (Nat.min_eq_left (by omega)).symm
  have hfit : 24 + (p.map encB).length ≤ ((([66, 89] ++ [UInt8.ofNat k] ++ [0] ++ be 4 n ++ be 8 g ++ be 4 p.length) ++ zeros (s - 20)).map encB).length := by simp [zeros, be_length]; omega
  have HP8 : Hid (BytesAt w8.heap.size w8 a p) := HP.out.here (HW.out.trans (hb8.mono HW.out.size))
  clear hr8 hb8
  go_wp2_with (first
    | (refine wpList_copy_splice rfl _ _ 27 27 rfl 5 Try.underlying27 hsz5 _ _ _ _ _ _ rfl rfl q 24 _ 5 HR8.out (p.map encB) hmin (copy_src HP8.out _ _) hfit (oneB p) wb.heap.size wb HB8.out HQ.out ?_
       intro w9 hr9 hb9
       have HB9 : Hid (Below wb.heap.size wb w9) := hb9
       clear hb9))
  rw [splice_patch, step6 s n g k p hp] at hr9
  have HR9 : Hid (RowIs w9 q (body s k n g p ++ zeros 8)) := hr9.out
  clear hr9 hmin hfit
  obtain ⟨m, hm⟩ : ∃ m, Hid (s = m + 8) := ⟨s - 8, by show _ = _; omega⟩
  have hbl := body_length s k n g p hp
  have htk : (body s k n g p ++ zeros 8).take (s - 8) = body s k n g p := List.take_left' hbl
  have hml : (m : Int) ≤ (s : Int) := by have := hm.out; omega
  have hml4 : ¬ s = m := by have := hm.out; omega
  have hml5 : ¬ s - m = 0 := by have := hm.out; omega
  have hsum := sumOf_any w9.drew (some ⟨q, 0, none⟩) s s (body s k n g p ++ zeros 8) (RowIs.bytes (w := w9.drew) HR9.out) (by rw [List.length_append, hbl, zeros_length]; omega) (by omega) (Nat.le_refl _) (by omega)
  rw [htk] at hsum
  have HSUM : Hid (Calls Try.prog 25 #[.slice (some ⟨q, 0, none⟩) s s] w9.drew fun e w' => e = .returned (.int .u64 ((rb (sumMore 0#64 (body s k n g p))).toNat : Int)) ∧ Below w9.drew.heap.size w9.drew w') := hsum
  have HBL : Hid _ := hbl
  clear hsum htk hbl
  go_wp2_with fail
  go_region_held_law (fun _ => True) (go_keep)
    (first
      | (go_at_call 24; refine (sumAt_as _ _ _ m _ hm.out (by omega)).mono ?_; rintro _ _ ⟨rfl, rfl⟩)
      | (go_at_call 25; refine HSUM.out.mono ?_
         rintro _ w10 ⟨rfl, hb10⟩
         have HR10 : Hid (RowIs w10 q (body s k n g p ++ zeros 8)) := RowIs.here (w := w9.drew) HR9.out hb10
         have HB10 : Hid (Below wb.heap.size wb w10) := HB9.out.drew.trans (hb10.mono HB9.out.size)
         clear hb10)
      | (go_at_call 23; refine (store_end wb.heap.size wb w10 q m _ _ _ _ _ (body s k n g p ++ zeros 8) (by first | rfl | exact if_neg (by omega)) (by have := hm.out; omega) rfl HR10.out HB10.out HQ.out (by have := hm.out; rw [List.length_append, HBL.out, zeros_length]; omega)).mono ?_
         rintro _ w11 ⟨rfl, hr11, hb11⟩))
  rw [step7 _ _ m (by have := HBL.out; have := hm.out; omega) (be_length ..)] at hr11
  have HR11 : Hid (RowIs w11 q (sealed s k n g p)) := hr11
  have HB11 : Hid (Below wb.heap.size wb w11) := hb11
  clear hr11 hb11
  go_wp2
  go_ret2
  exact ⟨q, rfl, by have := HQ.out; omega, HR11.out, HW.out.trans (HB11.out.mono HW.out.size)⟩
end Go.Proofs.Ytafkimhnllnopaa
