/- Where a life stands among lives (slices.BinarySearchFunc). -/
import Derived.Test.YtcfmcakdgamdmaaCommon
namespace Go.Proofs.Ytcfmcakdgamdmaa
open Go.RowKit

/-- What a search leaves. -/
structure PlacePost (w : World) (L : List Lf) (x : Lf) (r : Ending) (w' : World) : Prop where
  is : ∃ (p : Nat) (b : Bool), r = .returned (.tuple #[.int .i64 (p : Int), .bool b]) ∧ PlaceL L x p ∧ Below w.heap.size w w'
set_option maxHeartbeats 1600000 in
theorem searchL_any {w : World} {v : Value} {L : List Lf} {x : Lf} (hL : LivesAt w v L) (hok : OkL L) (hsh : L.length ≤ 140737488355328) :
    Calls Try.prog 36 #[v, aggL x, .func (.func 37) #[] #[]] w fun r w' => PlacePost w L x r w' := by
  obtain ⟨a, c, rfl⟩ := hL.form
  have HL : Hid (LivesAt w (.slice a L.length c) L) := hL
  have HOK : Hid (OkL L) := hok
  obtain ⟨W, hW⟩ : ∃ W, W = w.alloc (.cells #[.int .i64 x.p, .int .u64 x.b, .int .u64 x.d] 34) := ⟨_, rfl⟩
  have hx : W.heap[w.heap.size]? = some (.cells #[.int .i64 x.p, .int .u64 x.b, .int .u64 x.d] 34 (0, 0)) := by rw [hW]; exact heap_alloc_last w _
  have hb : Below w.heap.size w W := by rw [hW]; exact below_new w _
  have hWs : w.heap.size < W.heap.size := (Array.getElem?_eq_some_iff.1 hx).1
  have HX : Hid _ := hx
  have HB : Hid _ := hb
  clear hL hok hx hb
  unfold aggL
  go_enter Try.func36, Try.ntmps36
  go_wp2_with fail
  rw [← hW]
  clear hW
  go_loopw [9, 10] (fun vi vj wx => ∃ i j : Nat, i ≤ j ∧ j ≤ L.length ∧ vi = .int .i64 i ∧ vj = .int .i64 j ∧ (∀ n y, n < i → L[n]? = some y → ltL y x) ∧ (∀ n y, j ≤ n → L[n]? = some y → ¬ ltL y x) ∧ Below W.heap.size W wx) (fun vi vj _ => (intOf vj).toNat - (intOf vi).toNat)
  case atStart => exact ⟨0, L.length, by omega, Nat.le_refl _, rfl, rfl, fun n y h => absurd h (Nat.not_lt_zero _), fun n y hn hy => by have := (List.getElem?_eq_some_iff.1 hy).1; omega, Below.refl _ _⟩
  case round =>
    obtain ⟨i, j, hij, hjl, rfl, rfl, hlo, hhi, hbw⟩ := hrel
    have HLO : Hid _ := hlo
    have HHI : Hid _ := hhi
    have hxr : wr.heap[w.heap.size]? = some (.cells #[.int .i64 x.p, .int .u64 x.b, .int .u64 x.d] 34 (0, 0)) := by rw [hbw.block _ hWs]; exact HX.out
    have x0 : wr.cell? ⟨w.heap.size, 0, none⟩ = some (.int .i64 x.p) := row_cell hxr 0
    have x1 : wr.cell? ⟨w.heap.size, 1, none⟩ = some (.int .u64 x.b) := row_cell hxr 1
    have x2 : wr.cell? ⟨w.heap.size, 2, none⟩ = some (.int .u64 x.d) := row_cell hxr 2
    have hsx : w.heap.size < wr.heap.size := (Array.getElem?_eq_some_iff.1 hxr).1
    have hLr := (HL.out.here HB.out).here hbw
    have HBW : Hid _ := hbw
    clear hlo hhi hxr
    by_cases hlt : i < j
    · have hz : (i : Int) < (j : Int) := by omega
      obtain ⟨h, hh⟩ : ∃ h : Nat, h = (i + j) / 2 := ⟨_, rfl⟩
      have hh1 : ((i : Int) + (j : Int)) / 2 = (h : Int) := by omega
      have hh2 : h < j := by omega
      have hh3 : i ≤ h := by omega
      have hh4 : (h : Int) < (L.length : Int) := by omega
      obtain ⟨e, he⟩ : ∃ e, L[h]? = some e := ⟨_, List.getElem?_eq_getElem (by omega)⟩
      obtain ⟨g, off, rfl, hg, k0, k1, k2⟩ := lives_cell hLr he
      have HC : Hid (∀ W, Calls Try.prog 37 #[.agg #[.int .i64 e.p, .int .u64 e.b, .int .u64 e.d], .agg #[.int .i64 x.p, .int .u64 x.b, .int .u64 x.d]] W fun r w' => r = .returned (.int .i64 (cmpL e x)) ∧ Below W.heap.size W w') := fun W => compare_any W e x
      have HE : Hid (L[h]? = some e) := he
      clear hh he hLr hbw
      by_cases hk : ltL e x
      · have hcz : cmpL e x < 0 := (cmpL_lt e x).2 hk
        have HLO2 : Hid (∀ n y, n < h + 1 → L[n]? = some y → ltL y x) := fun n y hn hy => by
          by_cases hnh : n = h
          · rw [hnh, HE.out] at hy; cases hy; exact hk
          · have h1 := ahead_lt (HOK.out.span y (List.mem_of_getElem? hy)) (HOK.out.at (show n < h by omega) hy HE.out)
            unfold ltL at h1 hk ⊢
            omega
        clear hk
        go_wp2_with fail
        go_region_held_law (fun W' => W'.cell? ⟨w.heap.size, 0, none⟩ = some (.int .i64 x.p) ∧ W'.cell? ⟨w.heap.size, 1, none⟩ = some (.int .u64 x.b) ∧ W'.cell? ⟨w.heap.size, 2, none⟩ = some (.int .u64 x.d) ∧ W'.cell? ⟨g, off + h * 3, none⟩ = some (.int .i64 e.p) ∧ W'.cell? ⟨g, off + h * 3 + 1, none⟩ = some (.int .u64 e.b) ∧ W'.cell? ⟨g, off + h * 3 + 2, none⟩ = some (.int .u64 e.d)) (first | go_keep | (refine ⟨?_, ?_, ?_, ?_, ?_, ?_⟩ <;> assumption))
          ((go_at_call 37; refine (HC.out _).mono ?_; rintro r w2 ⟨rfl, hb2⟩
            have y0 := (hb2.cell (p := ⟨w.heap.size, 0, none⟩) hsx).trans x0
            have y1 := (hb2.cell (p := ⟨w.heap.size, 1, none⟩) hsx).trans x1
            have y2 := (hb2.cell (p := ⟨w.heap.size, 2, none⟩) hsx).trans x2
            have y3 := (hb2.cell (p := ⟨g, off + h * 3, none⟩) hg).trans k0
            have y4 := (hb2.cell (p := ⟨g, off + h * 3 + 1, none⟩) hg).trans k1
            have y5 := (hb2.cell (p := ⟨g, off + h * 3 + 2, none⟩) hg).trans k2
            have HB2 : Hid _ := hb2; clear hb2))
        go_wp2_with fail
        exact ⟨⟨h + 1, j, by omega, hjl, by go_num, rfl, HLO2.out, HHI.out, Below.trans (below_drew HBW.out) (Below.mono HB2.out HBW.out.size)⟩, by simp [intOf]; omega⟩
      · have hcz : ¬ cmpL e x < 0 := fun h => hk ((cmpL_lt e x).1 h)
        have HHI2 : Hid (∀ n y, h ≤ n → L[n]? = some y → ¬ ltL y x) := fun n y hn hy => by
          by_cases hnh : n = h
          · rw [hnh, HE.out] at hy; cases hy; exact hk
          · have h1 := ahead_lt (HOK.out.span e (List.mem_of_getElem? HE.out)) (HOK.out.at (show h < n by omega) HE.out hy)
            unfold ltL at h1 hk ⊢
            omega
        clear hk
        go_wp2_with fail
        go_region_held_law (fun W' => W'.cell? ⟨w.heap.size, 0, none⟩ = some (.int .i64 x.p) ∧ W'.cell? ⟨w.heap.size, 1, none⟩ = some (.int .u64 x.b) ∧ W'.cell? ⟨w.heap.size, 2, none⟩ = some (.int .u64 x.d) ∧ W'.cell? ⟨g, off + h * 3, none⟩ = some (.int .i64 e.p) ∧ W'.cell? ⟨g, off + h * 3 + 1, none⟩ = some (.int .u64 e.b) ∧ W'.cell? ⟨g, off + h * 3 + 2, none⟩ = some (.int .u64 e.d)) (first | go_keep | (refine ⟨?_, ?_, ?_, ?_, ?_, ?_⟩ <;> assumption))
          ((go_at_call 37; refine (HC.out _).mono ?_; rintro r w2 ⟨rfl, hb2⟩
            have y0 := (hb2.cell (p := ⟨w.heap.size, 0, none⟩) hsx).trans x0
            have y1 := (hb2.cell (p := ⟨w.heap.size, 1, none⟩) hsx).trans x1
            have y2 := (hb2.cell (p := ⟨w.heap.size, 2, none⟩) hsx).trans x2
            have y3 := (hb2.cell (p := ⟨g, off + h * 3, none⟩) hg).trans k0
            have y4 := (hb2.cell (p := ⟨g, off + h * 3 + 1, none⟩) hg).trans k1
            have y5 := (hb2.cell (p := ⟨g, off + h * 3 + 2, none⟩) hg).trans k2
            have HB2 : Hid _ := hb2; clear hb2))
        go_wp2_with fail
        exact ⟨⟨i, h, by omega, by omega, rfl, by go_num, HLO.out, HHI2.out, Below.trans (below_drew HBW.out) (Below.mono HB2.out HBW.out.size)⟩, by simp [intOf]; omega⟩
    · have hz : ¬ (i : Int) < (j : Int) := by omega
      obtain rfl : i = j := by omega
      have HF : Hid (PlaceL L x i) := ⟨hjl, HLO.out, HHI.out⟩
      by_cases hil : i < L.length
      · have hiz : (i : Int) < (L.length : Int) := by omega
        obtain ⟨e, he⟩ : ∃ e, L[i]? = some e := ⟨_, List.getElem?_eq_getElem hil⟩
        obtain ⟨g, off, rfl, hg, k0, k1, k2⟩ := lives_cell hLr he
        have HC : Hid (∀ W, Calls Try.prog 37 #[.agg #[.int .i64 e.p, .int .u64 e.b, .int .u64 e.d], .agg #[.int .i64 x.p, .int .u64 x.b, .int .u64 x.d]] W fun r w' => r = .returned (.int .i64 (cmpL e x)) ∧ Below W.heap.size W w') := fun W => compare_any W e x
        clear he hLr hbw
        go_wp2_with fail
        go_region_held_law (fun W' => W'.cell? ⟨w.heap.size, 0, none⟩ = some (.int .i64 x.p) ∧ W'.cell? ⟨w.heap.size, 1, none⟩ = some (.int .u64 x.b) ∧ W'.cell? ⟨w.heap.size, 2, none⟩ = some (.int .u64 x.d) ∧ W'.cell? ⟨g, off + i * 3, none⟩ = some (.int .i64 e.p) ∧ W'.cell? ⟨g, off + i * 3 + 1, none⟩ = some (.int .u64 e.b) ∧ W'.cell? ⟨g, off + i * 3 + 2, none⟩ = some (.int .u64 e.d)) (first | go_keep | (refine ⟨?_, ?_, ?_, ?_, ?_, ?_⟩ <;> assumption))
          ((go_at_call 37; refine (HC.out _).mono ?_; rintro r w2 ⟨rfl, hb2⟩
            have y0 := (hb2.cell (p := ⟨w.heap.size, 0, none⟩) hsx).trans x0
            have y1 := (hb2.cell (p := ⟨w.heap.size, 1, none⟩) hsx).trans x1
            have y2 := (hb2.cell (p := ⟨w.heap.size, 2, none⟩) hsx).trans x2
            have y3 := (hb2.cell (p := ⟨g, off + i * 3, none⟩) hg).trans k0
            have y4 := (hb2.cell (p := ⟨g, off + i * 3 + 1, none⟩) hg).trans k1
            have y5 := (hb2.cell (p := ⟨g, off + i * 3 + 2, none⟩) hg).trans k2
            have HB2 : Hid _ := hb2; clear hb2))
        go_wp2_with fail
        go_ret2
        exact ⟨i, _, rfl, HF.out, Below.trans HB.out (Below.mono (Below.trans (below_drew HBW.out) (Below.mono HB2.out HBW.out.size)) HB.out.size)⟩
      · have hiz : ¬ (i : Int) < (L.length : Int) := by omega
        clear hLr hbw
        go_wp2_with fail
        go_quiet (fail)
        go_wp2_with fail
        go_ret2
        exact ⟨i, false, rfl, HF.out, Below.trans HB.out (Below.mono (below_draws HBW.out _) HB.out.size)⟩
end Go.Proofs.Ytcfmcakdgamdmaa
