/- The law's play, more of its kinds. -/
import Derived.Test.YtlokplnapaghhaaDoorDecodedW
namespace Go.Proofs.YtlokplnapaghhaaDoor
open Go.RowKit

theorem pb_false : ((idx false : Nat) : Int) = 0 := rfl
theorem pb_true : ((idx true : Nat) : Int) = 1 := rfl
set_option maxHeartbeats 2000000 in
set_option maxRecDepth 100000 in
theorem play4 (base : Nat) (w : World) (p : Nat) (A B G C : Bool → Nat) (S : Bool → Sp) (h : WAt base w p A B G C S) (ht : Tab w) (hb : base ≤ w.heap.size) (k : Bool) (N : Int) (v : Value) :
    Calls Tryd.prog 11 #[.pointer (some ⟨p, 0, none⟩), .agg #[.bool k, .int .i64 4, .int .i64 N, v]] w fun e w' => e = .returned (.bool true) ∧ WSome base w' p ∧ Below base w w' := by
  obtain ⟨wb, hwb⟩ : ∃ wb, wb = w.alloc (.cells #[.bool k, .int .i64 4, .int .i64 N, v] 39) := ⟨_, rfl⟩
  have hbb : Below w.heap.size w wb := by rw [hwb]; exact (Below.refl _ _).alloc (Nat.le_refl _) _
  have hop : wb.heap[w.heap.size]? = some (.cells #[.bool k, .int .i64 4, .int .i64 N, v] 39 (0, 0)) := by rw [hwb]; exact heap_alloc_last _ _
  have hW := h.below hbb
  have htb := ht.below hbb
  have hbz : base ≤ wb.heap.size := Nat.le_trans hb hbb.size
  have d0 : wb.cell? ⟨w.heap.size, 0, none⟩ = some (.bool k) := row_cell hop 0
  have d1 : wb.cell? ⟨w.heap.size, 1, none⟩ = some (.int .i64 4) := row_cell hop 1
  have d2 : wb.cell? ⟨w.heap.size, 2, none⟩ = some (.int .i64 N) := row_cell hop 2
  have d3 : wb.cell? ⟨w.heap.size, 3, none⟩ = some v := row_cell hop 3
  have HBB : Hid (Below base w wb) := hbb.mono hb
  have HW : Hid (WAt base wb p A B G C S) := hW
  have HOP : Hid _ := hop
  have x0 : wb.cell? ⟨p, 0, none⟩ = some (.pointer (some ⟨A false, 0, none⟩)) := hW.cellS false
  have x1 : wb.cell? ⟨p, 1, none⟩ = some (.pointer (some ⟨A true, 0, none⟩)) := hW.cellS true
  have x2 : wb.cell? ⟨p, 2, none⟩ = some (.pointer (some ⟨B false, 0, none⟩)) := hW.cellX false
  have x3 : wb.cell? ⟨p, 3, none⟩ = some (.pointer (some ⟨B true, 0, none⟩)) := hW.cellX true
  have hh : ((S k).hasI N == (S k).hasI N) = true := by simp
  have hu : (((S k).used : Int) == ((S k).used : Int)) = true := by simp
  have hl : ((((S k).n - (S k).used : Nat) : Int) == (((S k).n - (S k).used : Nat) : Int)) = true := by simp
  have hSd : ∀ q, SpaceAt (wb.drewN q) (A k) (S k) := fun q => ⟨(hW.sp k).cells, (hW.sp k).ok⟩
  have hRd : ∀ q, RefAt (wb.drewN q) (B k) (G k) (C k) (S k) := fun q => ⟨(hW.rf k).box, (hW.rf k).row, (hW.rf k).le, (hW.rf k).ok⟩
  have Q1 := fun q => has_any (wb.drewN q) (A k) (S k) (hSd q) N
  have Q2 := fun q => rhas_any (wb.drewN q) (B k) (G k) (C k) (S k) (hRd q) N
  have Q3 := fun q => used_any (wb.drewN q) (A k) (S k) (hSd q)
  have Q4 := fun q => rused_any (wb.drewN q) (B k) (G k) (C k) (S k) (hRd q)
  have Q5 := fun q => left_any (wb.drewN q) (A k) (S k) (hSd q)
  have Q6 := fun q => rleft_any (wb.drewN q) (B k) (G k) (C k) (S k) (hRd q)
  generalize (S k).hasI N = HH at hh Q1 Q2
  generalize (((S k).n - (S k).used : Nat) : Int) = LL at hl Q5 Q6
  generalize ((S k).used : Int) = UU at hu Q3 Q4
  have FIN : Hid (∀ q, WSome base (wb.drewN q) p ∧ Below base w (wb.drewN q)) := fun q => ⟨⟨_, _, _, _, _, hW.below ⟨rfl, rfl, rfl, Nat.le_refl _, fun _ _ => rfl⟩⟩, HBB.out.trans ⟨rfl, rfl, rfl, Nat.le_refl _, fun _ _ => rfl⟩⟩
  clear h ht hbb hop hW htb hSd hRd
  cases k
  all_goals
    subst hwb
    go_enter Tryd.func11, Tryd.ntmps11
    go_wp2
    go_quiet ((first
      | (go_at_call 23; exact Calls.quiet_of_same (Q1 _))
      | (go_at_call 32; exact Calls.quiet_of_same (Q2 _))
      | (go_at_call 16; exact Calls.quiet_of (Q3 _))
      | (go_at_call 17; exact Calls.quiet_of_same (Q4 _))
      | (go_at_call 18; exact Calls.quiet_of (Q5 _))
      | (go_at_call 19; exact Calls.quiet_of (Q6 _))))
    go_wp2
    go_ret
    exact ⟨rfl, (FIN.out _).1, (FIN.out _).2⟩
set_option maxHeartbeats 2000000 in
set_option maxRecDepth 100000 in
theorem play5 (base : Nat) (w : World) (p : Nat) (A B G C : Bool → Nat) (S : Bool → Sp) (h : WAt base w p A B G C S) (ht : Tab w) (hb : base ≤ w.heap.size) (k : Bool) (N : Int) (v : Value) :
    Calls Tryd.prog 11 #[.pointer (some ⟨p, 0, none⟩), .agg #[.bool k, .int .i64 5, .int .i64 N, v]] w fun e w' => e = .returned (.bool true) ∧ WSome base w' p ∧ Below base w w' := by
  obtain ⟨wb, hwb⟩ : ∃ wb, wb = w.alloc (.cells #[.bool k, .int .i64 5, .int .i64 N, v] 39) := ⟨_, rfl⟩
  have hbb : Below w.heap.size w wb := by rw [hwb]; exact (Below.refl _ _).alloc (Nat.le_refl _) _
  have hop : wb.heap[w.heap.size]? = some (.cells #[.bool k, .int .i64 5, .int .i64 N, v] 39 (0, 0)) := by rw [hwb]; exact heap_alloc_last _ _
  have hW := h.below hbb
  have htb := ht.below hbb
  have hbz : base ≤ wb.heap.size := Nat.le_trans hb hbb.size
  have d0 : wb.cell? ⟨w.heap.size, 0, none⟩ = some (.bool k) := row_cell hop 0
  have d1 : wb.cell? ⟨w.heap.size, 1, none⟩ = some (.int .i64 5) := row_cell hop 1
  have d2 : wb.cell? ⟨w.heap.size, 2, none⟩ = some (.int .i64 N) := row_cell hop 2
  have d3 : wb.cell? ⟨w.heap.size, 3, none⟩ = some v := row_cell hop 3
  have HBB : Hid (Below base w wb) := hbb.mono hb
  have HW : Hid (WAt base wb p A B G C S) := hW
  have HOP : Hid _ := hop
  have x0 : wb.cell? ⟨p, 0, none⟩ = some (.pointer (some ⟨A false, 0, none⟩)) := hW.cellS false
  have x1 : wb.cell? ⟨p, 1, none⟩ = some (.pointer (some ⟨A true, 0, none⟩)) := hW.cellS true
  have x2 : wb.cell? ⟨p, 2, none⟩ = some (.pointer (some ⟨B false, 0, none⟩)) := hW.cellX false
  have x3 : wb.cell? ⟨p, 3, none⟩ = some (.pointer (some ⟨B true, 0, none⟩)) := hW.cellX true
  have HC1 := rruns_any wb (B k) (G k) (C k) (S k) (hW.rf k)
  have HC2 : Hid (∀ w1 v1, Below wb.heap.size wb w1 → NewR wb.heap.size w1 v1 (S k).runs → Calls Tryd.prog 12 #[.pointer (some ⟨A k, 0, none⟩), v1] w1 fun e w' => e = .returned (.bool true) ∧ Below w1.heap.size w1 w') := fun w1 v1 h1 h2 => by
    have := lawRuns_any w1 (A k) (S k) ((hW.sp k).below h1) (htb.below h1) v1 (S k).runs h2.in
    rwa [decide_eq_true rfl] at this
  generalize (S k).runs = RR at HC1 HC2
  have FIN : Hid (∀ w2, Below wb.heap.size wb w2 → WSome base w2 p ∧ Below base w w2) := fun w2 g => ⟨⟨_, _, _, _, _, hW.below g⟩, HBB.out.trans (g.mono hbz)⟩
  clear h ht hbb hop hW htb
  cases k
  all_goals
    subst hwb
    go_enter Tryd.func11, Tryd.ntmps11
    go_wp2_with (first
      | (go_at_call 13; refine HC1.mono ?_; rintro e w1 ⟨v1, rfl, hv1, hb1⟩; have HV1 : Hid _ := hv1; have HB1 : Hid _ := hb1; clear hv1 hb1)
      | (go_at_call 12; refine (HC2.out w1 v1 HB1.out HV1.out).mono ?_; rintro e w2 ⟨rfl, hb2⟩; have HB2 : Hid _ := hb2; clear hb2))
    go_ret
    have hf := FIN.out _ (HB1.out.trans (HB2.out.mono HB1.out.size))
    exact ⟨rfl, hf.1, hf.2⟩
set_option maxHeartbeats 2000000 in
set_option maxRecDepth 100000 in
theorem play6 (base : Nat) (w : World) (p : Nat) (A B G C : Bool → Nat) (S : Bool → Sp) (h : WAt base w p A B G C S) (ht : Tab w) (hb : base ≤ w.heap.size) (k : Bool) (N : Int) (v : Value) :
    Calls Tryd.prog 11 #[.pointer (some ⟨p, 0, none⟩), .agg #[.bool k, .int .i64 6, .int .i64 N, v]] w fun e w' => e = .returned (.bool true) ∧ WSome base w' p ∧ Below base w w' := by
  obtain ⟨wb, hwb⟩ : ∃ wb, wb = w.alloc (.cells #[.bool k, .int .i64 6, .int .i64 N, v] 39) := ⟨_, rfl⟩
  have hbb : Below w.heap.size w wb := by rw [hwb]; exact (Below.refl _ _).alloc (Nat.le_refl _) _
  have hop : wb.heap[w.heap.size]? = some (.cells #[.bool k, .int .i64 6, .int .i64 N, v] 39 (0, 0)) := by rw [hwb]; exact heap_alloc_last _ _
  have hW := h.below hbb
  have htb := ht.below hbb
  have hbz : base ≤ wb.heap.size := Nat.le_trans hb hbb.size
  have d0 : wb.cell? ⟨w.heap.size, 0, none⟩ = some (.bool k) := row_cell hop 0
  have d1 : wb.cell? ⟨w.heap.size, 1, none⟩ = some (.int .i64 6) := row_cell hop 1
  have d2 : wb.cell? ⟨w.heap.size, 2, none⟩ = some (.int .i64 N) := row_cell hop 2
  have d3 : wb.cell? ⟨w.heap.size, 3, none⟩ = some v := row_cell hop 3
  have HBB : Hid (Below base w wb) := hbb.mono hb
  have HW : Hid (WAt base wb p A B G C S) := hW
  have HOP : Hid _ := hop
  have x0 : wb.cell? ⟨p, 0, none⟩ = some (.pointer (some ⟨A false, 0, none⟩)) := hW.cellS false
  have x1 : wb.cell? ⟨p, 1, none⟩ = some (.pointer (some ⟨A true, 0, none⟩)) := hW.cellS true
  have x2 : wb.cell? ⟨p, 2, none⟩ = some (.pointer (some ⟨B false, 0, none⟩)) := hW.cellX false
  have x3 : wb.cell? ⟨p, 3, none⟩ = some (.pointer (some ⟨B true, 0, none⟩)) := hW.cellX true
  have HC1 := rencode_any wb (B k) (G k) (C k) (S k) (hW.rf k)
  have HC2 : Hid (∀ w1, Below wb.heap.size wb w1 → Calls Tryd.prog 14 #[.pointer (some ⟨A k, 0, none⟩), .string (strB (S k).enc)] w1 fun e w' => e = .returned (.bool true) ∧ Below w1.heap.size w1 w') := fun w1 h1 => by
    have := lawBytes_any w1 (A k) (S k) ((hW.sp k).below h1) (htb.below h1) (S k).enc
    rwa [decide_eq_true rfl] at this
  generalize (S k).enc = RR at HC1 HC2
  have FIN : Hid (∀ w2, Below wb.heap.size wb w2 → WSome base w2 p ∧ Below base w w2) := fun w2 g => ⟨⟨_, _, _, _, _, hW.below g⟩, HBB.out.trans (g.mono hbz)⟩
  clear h ht hbb hop hW htb
  cases k
  all_goals
    subst hwb
    go_enter Tryd.func11, Tryd.ntmps11
    go_wp2_with (first
      | (go_at_call 15; refine HC1.mono ?_; rintro e w1 ⟨v1, rfl, hv1, hb1⟩; have hcv := conv_new hv1; have HB1 : Hid _ := hb1; clear hv1 hb1)
      | (go_at_call 14; refine (HC2.out w1 HB1.out).mono ?_; rintro e w2 ⟨rfl, hb2⟩; have HB2 : Hid _ := hb2; clear hb2))
    go_ret
    have hf := FIN.out _ (HB1.out.trans (HB2.out.mono HB1.out.size))
    exact ⟨rfl, hf.1, hf.2⟩
end Go.Proofs.YtlokplnapaghhaaDoor
