/- The law's play, more of its kinds. -/
import Derived.Test.YtlokplnapaghhaaDoorDecodedW
namespace Go.Proofs.YtlokplnapaghhaaDoor
open Go.RowKit

theorem pc_false : ((idx false : Nat) : Int) = 0 := rfl
theorem pc_true : ((idx true : Nat) : Int) = 1 := rfl
set_option maxHeartbeats 2000000 in
set_option maxRecDepth 100000 in
theorem play8 (base : Nat) (w : World) (p : Nat) (A B G C : Bool → Nat) (S : Bool → Sp) (h : WAt base w p A B G C S) (ht : Tab w) (hb : base ≤ w.heap.size) (k : Bool) (N : Int) (v : Value) :
    Calls Tryd.prog 11 #[.pointer (some ⟨p, 0, none⟩), .agg #[.bool k, .int .i64 8, .int .i64 N, v]] w fun e w' => e = .returned (.bool true) ∧ WSome base w' p ∧ Below base w w' := by
  obtain ⟨wb, hwb⟩ : ∃ wb, wb = w.alloc (.cells #[.bool k, .int .i64 8, .int .i64 N, v] 39) := ⟨_, rfl⟩
  have hbb : Below w.heap.size w wb := by rw [hwb]; exact (Below.refl _ _).alloc (Nat.le_refl _) _
  have hop : wb.heap[w.heap.size]? = some (.cells #[.bool k, .int .i64 8, .int .i64 N, v] 39 (0, 0)) := by rw [hwb]; exact heap_alloc_last _ _
  have hW := h.below hbb
  have htb := ht.below hbb
  have hbz : base ≤ wb.heap.size := Nat.le_trans hb hbb.size
  have d0 : wb.cell? ⟨w.heap.size, 0, none⟩ = some (.bool k) := row_cell hop 0
  have d1 : wb.cell? ⟨w.heap.size, 1, none⟩ = some (.int .i64 8) := row_cell hop 1
  have d2 : wb.cell? ⟨w.heap.size, 2, none⟩ = some (.int .i64 N) := row_cell hop 2
  have d3 : wb.cell? ⟨w.heap.size, 3, none⟩ = some v := row_cell hop 3
  have HBB : Hid (Below base w wb) := hbb.mono hb
  have HW : Hid (WAt base wb p A B G C S) := hW
  have HOP : Hid _ := hop
  have x0 : wb.cell? ⟨p, 0, none⟩ = some (.pointer (some ⟨A false, 0, none⟩)) := hW.cellS false
  have x1 : wb.cell? ⟨p, 1, none⟩ = some (.pointer (some ⟨A true, 0, none⟩)) := hW.cellS true
  have x2 : wb.cell? ⟨p, 2, none⟩ = some (.pointer (some ⟨B false, 0, none⟩)) := hW.cellX false
  have x3 : wb.cell? ⟨p, 3, none⟩ = some (.pointer (some ⟨B true, 0, none⟩)) := hW.cellX true
  have HC1 := rencode_any wb (B k) (G k) (C k) (S k) (hW.rf k)
  have HC2 : Hid (∀ w1 v1, Below wb.heap.size wb w1 → NewB wb.heap.size w1 v1 (S k).enc → Calls Tryd.prog 35 #[.pointer (some ⟨p, 0, none⟩), .int .i64 (idx k : Int), v1] w1 fun e w' => e = .returned (.bool true) ∧ WSome base w' p ∧ Below base w1 w') := fun w1 v1 h1 h2 => by
    have hl := (S k).runs_length
    have h65 := (hW.sp k).ok.high
    have hlen : (S k).enc.length ≤ 600000 := by rw [Sp.enc, List.length_append, be4_length, encR_length]; omega
    have hpos : 0 < (S k).enc.length := by rw [Sp.enc, List.length_append, be4_length]; omega
    obtain ⟨g, c, rfl, _, hc⟩ := newB_parts h2 hpos
    obtain ⟨a', c', e', hb'⟩ := newB_at h2
    cases e'
    exact decoded_any base w1 p A B G C S (hW.below h1) (Nat.le_trans hbz h1.size) k _ c _ hb' hc (fun e => by cases e) (by omega)
  generalize (S k).enc = RR at HC1 HC2
  clear h ht hbb hop hW htb
  cases k
  all_goals
    first
      | rw [pc_false] at HC2
      | rw [pc_true] at HC2
    subst hwb
    go_enter Tryd.func11, Tryd.ntmps11
    go_wp2_with (first
      | (go_at_call 15; refine HC1.mono ?_; rintro e w1 ⟨v1, rfl, hv1, hb1⟩; have HV1 : Hid _ := hv1; have HB1 : Hid _ := hb1; clear hv1 hb1)
      | (go_at_call 35; refine (HC2.out w1 v1 HB1.out HV1.out).mono ?_; rintro e w2 ⟨rfl, hw2, hb2⟩; have HB2 : Hid _ := hb2; have HW2 : Hid _ := hw2; clear hb2 hw2))
    go_ret
    exact ⟨rfl, HW2.out, (HBB.out.trans (HB1.out.mono hbz)).trans HB2.out⟩
set_option maxHeartbeats 2000000 in
set_option maxRecDepth 100000 in
theorem play9 (base : Nat) (w : World) (p : Nat) (A B G C : Bool → Nat) (S : Bool → Sp) (h : WAt base w p A B G C S) (ht : Tab w) (hb : base ≤ w.heap.size) (k : Bool) (N : Int) (v : Value) (a : Option Addr) (c : Nat) (bs : List UInt8) (hv : v = .slice a bs.length c) (hbs : BytesAt w.heap.size w a bs) (hc : bs.length ≤ c) (hn : a = none → c = 0) (hs : bs.length ≤ 140737488351232) :
    Calls Tryd.prog 11 #[.pointer (some ⟨p, 0, none⟩), .agg #[.bool k, .int .i64 9, .int .i64 N, v]] w fun e w' => e = .returned (.bool true) ∧ WSome base w' p ∧ Below base w w' := by
  obtain ⟨wb, hwb⟩ : ∃ wb, wb = w.alloc (.cells #[.bool k, .int .i64 9, .int .i64 N, v] 39) := ⟨_, rfl⟩
  have hbb : Below w.heap.size w wb := by rw [hwb]; exact (Below.refl _ _).alloc (Nat.le_refl _) _
  have hop : wb.heap[w.heap.size]? = some (.cells #[.bool k, .int .i64 9, .int .i64 N, v] 39 (0, 0)) := by rw [hwb]; exact heap_alloc_last _ _
  have hW := h.below hbb
  have htb := ht.below hbb
  have hbz : base ≤ wb.heap.size := Nat.le_trans hb hbb.size
  have d0 : wb.cell? ⟨w.heap.size, 0, none⟩ = some (.bool k) := row_cell hop 0
  have d1 : wb.cell? ⟨w.heap.size, 1, none⟩ = some (.int .i64 9) := row_cell hop 1
  have d2 : wb.cell? ⟨w.heap.size, 2, none⟩ = some (.int .i64 N) := row_cell hop 2
  have d3 : wb.cell? ⟨w.heap.size, 3, none⟩ = some v := row_cell hop 3
  have HBB : Hid (Below base w wb) := hbb.mono hb
  have HW : Hid (WAt base wb p A B G C S) := hW
  have HOP : Hid _ := hop
  have x0 : wb.cell? ⟨p, 0, none⟩ = some (.pointer (some ⟨A false, 0, none⟩)) := hW.cellS false
  have x1 : wb.cell? ⟨p, 1, none⟩ = some (.pointer (some ⟨A true, 0, none⟩)) := hW.cellS true
  have x2 : wb.cell? ⟨p, 2, none⟩ = some (.pointer (some ⟨B false, 0, none⟩)) := hW.cellX false
  have x3 : wb.cell? ⟨p, 3, none⟩ = some (.pointer (some ⟨B true, 0, none⟩)) := hW.cellX true
  have HC := decoded_any base wb p A B G C S hW hbz k a c bs (BytesAt.here hbs hbb) hc hn hs
  rw [← hv] at HC
  clear h ht hbb hop hW htb hbs hc hn hs hv
  cases k
  all_goals
    first
      | rw [pc_false] at HC
      | rw [pc_true] at HC
    subst hwb
    go_enter Tryd.func11, Tryd.ntmps11
    go_wp2_with (go_at_call 35; refine HC.mono ?_; rintro e w2 ⟨rfl, hw2, hb2⟩; have HB2 : Hid _ := hb2; have HW2 : Hid _ := hw2; clear hb2 hw2)
    go_ret
    exact ⟨rfl, HW2.out, HBB.out.trans HB2.out⟩
end Go.Proofs.YtlokplnapaghhaaDoor
