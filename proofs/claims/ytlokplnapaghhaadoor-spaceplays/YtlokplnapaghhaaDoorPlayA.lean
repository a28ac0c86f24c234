/- The law's play. -/
import Derived.Test.YtlokplnapaghhaaDoorDecodedW
namespace Go.Proofs.YtlokplnapaghhaaDoor
open Go.RowKit

theorem kept_ab {a b : Nat} {w w1 w2 : World} (h : Kept (fun i => i = a) w w1) (k : Kept (fun i => i = b) w1 w2) : Kept (fun i => i = a ∨ i = b) w w2 := (h.mono (T := fun i => i = a ∨ i = b) (fun _ _ x => .inl x)).trans k (fun _ _ x => .inr x)
theorem kept_ba {a b : Nat} {w w1 w2 : World} (h : Kept (fun i => i = b) w w1) (k : Kept (fun i => i = a) w1 w2) : Kept (fun i => i = a ∨ i = b) w w2 := (h.mono (T := fun i => i = a ∨ i = b) (fun _ _ x => .inr x)).trans k (fun _ _ x => .inl x)
theorem idx_false : ((idx false : Nat) : Int) = 0 := rfl
theorem idx_true : ((idx true : Nat) : Int) = 1 := rfl
set_option maxHeartbeats 2000000 in
set_option maxRecDepth 100000 in
theorem play1 (base : Nat) (w : World) (p : Nat) (A B G C : Bool → Nat) (S : Bool → Sp) (h : WAt base w p A B G C S) (ht : Tab w) (hb : base ≤ w.heap.size) (k : Bool) (N : Int) (v : Value) :
    Calls Tryd.prog 11 #[.pointer (some ⟨p, 0, none⟩), .agg #[.bool k, .int .i64 1, .int .i64 N, v]] w fun e w' => e = .returned (.bool true) ∧ WSome base w' p ∧ Below base w w' := by
  obtain ⟨wb, hwb⟩ : ∃ wb, wb = w.alloc (.cells #[.bool k, .int .i64 1, .int .i64 N, v] 39) := ⟨_, rfl⟩
  have hbb : Below w.heap.size w wb := by rw [hwb]; exact (Below.refl _ _).alloc (Nat.le_refl _) _
  have hop : wb.heap[w.heap.size]? = some (.cells #[.bool k, .int .i64 1, .int .i64 N, v] 39 (0, 0)) := by rw [hwb]; exact heap_alloc_last _ _
  have hW := h.below hbb
  have htb := ht.below hbb
  have hbz : base ≤ wb.heap.size := Nat.le_trans hb hbb.size
  have d0 : wb.cell? ⟨w.heap.size, 0, none⟩ = some (.bool k) := row_cell hop 0
  have d1 : wb.cell? ⟨w.heap.size, 1, none⟩ = some (.int .i64 1) := row_cell hop 1
  have d2 : wb.cell? ⟨w.heap.size, 2, none⟩ = some (.int .i64 N) := row_cell hop 2
  have d3 : wb.cell? ⟨w.heap.size, 3, none⟩ = some v := row_cell hop 3
  have HBB : Hid (Below base w wb) := hbb.mono hb
  have HW : Hid (WAt base wb p A B G C S) := hW
  have HOP : Hid _ := hop
  have x0 : wb.cell? ⟨p, 0, none⟩ = some (.pointer (some ⟨A false, 0, none⟩)) := hW.cellS false
  have x1 : wb.cell? ⟨p, 1, none⟩ = some (.pointer (some ⟨A true, 0, none⟩)) := hW.cellS true
  have x2 : wb.cell? ⟨p, 2, none⟩ = some (.pointer (some ⟨B false, 0, none⟩)) := hW.cellX false
  have x3 : wb.cell? ⟨p, 3, none⟩ = some (.pointer (some ⟨B true, 0, none⟩)) := hW.cellX true
  have HC := walloc_any base wb p A B G C S hW htb hbz k
  clear h ht hbb hop hW htb
  cases k
  all_goals
    first
      | rw [idx_false] at HC
      | rw [idx_true] at HC
    subst hwb
    go_enter Tryd.func11, Tryd.ntmps11
    go_wp2_with (go_at_call 29; refine HC.mono ?_; rintro e w2 ⟨rfl, hw2, hb2⟩; have HW2 : Hid _ := hw2; have HB2 : Hid _ := hb2; clear hw2 hb2)
    go_ret
    exact ⟨rfl, ⟨_, _, _, _, _, HW2.out⟩, HBB.out.trans HB2.out⟩
set_option maxHeartbeats 2000000 in
set_option maxRecDepth 100000 in
theorem play2 (base : Nat) (w : World) (p : Nat) (A B G C : Bool → Nat) (S : Bool → Sp) (h : WAt base w p A B G C S) (ht : Tab w) (hb : base ≤ w.heap.size) (k : Bool) (N : Int) (v : Value) :
    Calls Tryd.prog 11 #[.pointer (some ⟨p, 0, none⟩), .agg #[.bool k, .int .i64 2, .int .i64 N, v]] w fun e w' => e = .returned (.bool true) ∧ WSome base w' p ∧ Below base w w' := by
  obtain ⟨wb, hwb⟩ : ∃ wb, wb = w.alloc (.cells #[.bool k, .int .i64 2, .int .i64 N, v] 39) := ⟨_, rfl⟩
  have hbb : Below w.heap.size w wb := by rw [hwb]; exact (Below.refl _ _).alloc (Nat.le_refl _) _
  have hop : wb.heap[w.heap.size]? = some (.cells #[.bool k, .int .i64 2, .int .i64 N, v] 39 (0, 0)) := by rw [hwb]; exact heap_alloc_last _ _
  have hW := h.below hbb
  have htb := ht.below hbb
  have hbz : base ≤ wb.heap.size := Nat.le_trans hb hbb.size
  have d0 : wb.cell? ⟨w.heap.size, 0, none⟩ = some (.bool k) := row_cell hop 0
  have d1 : wb.cell? ⟨w.heap.size, 1, none⟩ = some (.int .i64 2) := row_cell hop 1
  have d2 : wb.cell? ⟨w.heap.size, 2, none⟩ = some (.int .i64 N) := row_cell hop 2
  have d3 : wb.cell? ⟨w.heap.size, 3, none⟩ = some v := row_cell hop 3
  have HBB : Hid (Below base w wb) := hbb.mono hb
  have HW : Hid (WAt base wb p A B G C S) := hW
  have HOP : Hid _ := hop
  have x0 : wb.cell? ⟨p, 0, none⟩ = some (.pointer (some ⟨A false, 0, none⟩)) := hW.cellS false
  have x1 : wb.cell? ⟨p, 1, none⟩ = some (.pointer (some ⟨A true, 0, none⟩)) := hW.cellS true
  have x2 : wb.cell? ⟨p, 2, none⟩ = some (.pointer (some ⟨B false, 0, none⟩)) := hW.cellX false
  have x3 : wb.cell? ⟨p, 3, none⟩ = some (.pointer (some ⟨B true, 0, none⟩)) := hW.cellX true
  have HC1 : Hid (∀ W, SpaceAt W (A k) (S k) → Calls Tryd.prog 25 #[.pointer (some ⟨A k, 0, none⟩), .int .i64 N] W fun e w' => e = .returned (.int .i64 ((S k).takeE N)) ∧ SpaceAt w' (A k) ((S k).takeS N) ∧ Kept (fun i => i = A k) W w') := fun W hW => take_any W _ _ hW N
  have HC2 : Hid (∀ W, RefAt W (B k) (G k) (C k) (S k) → Calls Tryd.prog 30 #[.pointer (some ⟨B k, 0, none⟩), .int .i64 N] W fun e w' => e = .returned (.int .i64 ((S k).takeE N)) ∧ RefAt w' (B k) (G k) (C k) ((S k).takeS N) ∧ Kept (fun i => i = G k) W w') := fun W hW => rtake_any W _ _ _ _ hW N
  have heq : ((S k).takeE N == (S k).takeE N) = true := by simp
  have HS0 : Hid (SpaceAt wb.drew (A k) (S k)) := ⟨(hW.sp k).cells, (hW.sp k).ok⟩
  have HR0 : Hid (RefAt wb.drew (B k) (G k) (C k) (S k)) := ⟨(hW.rf k).box, (hW.rf k).row, (hW.rf k).le, (hW.rf k).ok⟩
  generalize (S k).takeE N = E at HC1 HC2 heq
  have FIN : Hid (∀ w2 s', Kept (fun i => i = A k ∨ i = G k) wb w2 → SpaceAt w2 (A k) s' → RefAt w2 (B k) (G k) (C k) s' → WSome base w2 p ∧ Below base w w2) := fun w2 s' g1 g2 g3 => ⟨⟨_, _, _, _, _, hW.step k g1 g2 g3⟩, HBB.out.trans (hW.below_step k g1 hbz)⟩
  have TG1 : Hid (∀ W, Kept (fun i => i = A k) wb.drew W → RefAt W (B k) (G k) (C k) (S k) ∧ W.heap[w.heap.size]? = some (.cells #[.bool k, .int .i64 2, .int .i64 N, v] 39 (0, 0))) := fun W hk => by
    have hk' : Kept (fun i => i = A k) wb W := ⟨hk.os, hk.tape, hk.output, hk.size, hk.block⟩
    refine ⟨hW.ref_far k hk', ?_⟩
    rw [hk'.block _ (Array.getElem?_eq_some_iff.1 hop).1 (tagw hop (hW.sp k).cells (by decide))]
    exact hop
  have TG2 : Hid (∀ W, Kept (fun i => i = G k) wb.drew W → SpaceAt W (A k) (S k) ∧ W.heap[w.heap.size]? = some (.cells #[.bool k, .int .i64 2, .int .i64 N, v] 39 (0, 0))) := fun W hk => by
    have hk' : Kept (fun i => i = G k) wb W := ⟨hk.os, hk.tape, hk.output, hk.size, hk.block⟩
    obtain ⟨cj, hj⟩ := (hW.rf k).rowIs
    refine ⟨hW.sp_far k hk', ?_⟩
    rw [hk'.block _ (Array.getElem?_eq_some_iff.1 hop).1 (tagw hop hj (by decide))]
    exact hop
  clear h ht hbb hop hW htb
  have TAG : Hid (∀ W s s', SpaceAt W (A k) s → RefAt W (B k) (G k) (C k) s' → A k ≠ G k ∧ A k ≠ B k) := fun W s s' g1 g2 => by
    obtain ⟨cj, hj⟩ := g2.rowIs
    exact ⟨tagw g1.cells hj (by decide), tagw g1.cells g2.box (by decide)⟩
  cases k
  all_goals
    subst hwb
    go_enter Tryd.func11, Tryd.ntmps11
    go_wp2
    go_region_with (first
      | (go_at_call 25
         refine (HC1.out _ HS1.out).mono ?_
         rintro e w2 ⟨rfl, hs2, hk2⟩
         have HK2 : Hid _ := kept_ba HK1.out hk2
         have HR2 : Hid _ := HR1.out.kept hk2 (Ne.symm (TAG.out _ _ _ HS1.out HR1.out).2) (Ne.symm (TAG.out _ _ _ HS1.out HR1.out).1)
         have HS2 : Hid _ := hs2
         clear hs2 hk2)
      | (go_at_call 30
         refine (HC2.out _ HRX.out).mono ?_
         rintro e w2 ⟨rfl, hr2, hk2⟩
         have HK2 : Hid _ := kept_ab HKX.out hk2
         have HS2 : Hid _ := HSX.out.kept hk2 (TAG.out _ _ _ HSX.out HRX.out).1
         have HR2 : Hid _ := hr2
         clear hr2 hk2)
      | (go_at_call 25
         refine (HC1.out _ HS0.out).mono ?_
         rintro e w1 ⟨rfl, hs1, hk1⟩
         have HSX : Hid _ := hs1
         have HKX : Hid _ := hk1
         have HRX : Hid _ := (TG1.out _ hk1).1
         have d22 := row_cell (TG1.out _ hk1).2 2
         clear hs1 hk1)
      | (go_at_call 30
         refine (HC2.out _ HR0.out).mono ?_
         rintro e w1 ⟨rfl, hr1, hk1⟩
         have HR1 : Hid _ := hr1
         have HK1 : Hid _ := hk1
         have HS1 : Hid _ := (TG2.out _ hk1).1
         have d22 := row_cell (TG2.out _ hk1).2 2
         clear hr1 hk1))
    all_goals
      go_wp2_with fail
      go_ret
      have hfin := FIN.out _ _ ⟨HK2.out.os, HK2.out.tape, HK2.out.output, HK2.out.size, HK2.out.block⟩ HS2.out HR2.out
      exact ⟨rfl, hfin.1, hfin.2⟩
set_option maxHeartbeats 2000000 in
set_option maxRecDepth 100000 in
theorem play3 (base : Nat) (w : World) (p : Nat) (A B G C : Bool → Nat) (S : Bool → Sp) (h : WAt base w p A B G C S) (ht : Tab w) (hb : base ≤ w.heap.size) (k : Bool) (N : Int) (v : Value) :
    Calls Tryd.prog 11 #[.pointer (some ⟨p, 0, none⟩), .agg #[.bool k, .int .i64 3, .int .i64 N, v]] w fun e w' => e = .returned (.bool true) ∧ WSome base w' p ∧ Below base w w' := by
  obtain ⟨wb, hwb⟩ : ∃ wb, wb = w.alloc (.cells #[.bool k, .int .i64 3, .int .i64 N, v] 39) := ⟨_, rfl⟩
  have hbb : Below w.heap.size w wb := by rw [hwb]; exact (Below.refl _ _).alloc (Nat.le_refl _) _
  have hop : wb.heap[w.heap.size]? = some (.cells #[.bool k, .int .i64 3, .int .i64 N, v] 39 (0, 0)) := by rw [hwb]; exact heap_alloc_last _ _
  have hW := h.below hbb
  have htb := ht.below hbb
  have hbz : base ≤ wb.heap.size := Nat.le_trans hb hbb.size
  have d0 : wb.cell? ⟨w.heap.size, 0, none⟩ = some (.bool k) := row_cell hop 0
  have d1 : wb.cell? ⟨w.heap.size, 1, none⟩ = some (.int .i64 3) := row_cell hop 1
  have d2 : wb.cell? ⟨w.heap.size, 2, none⟩ = some (.int .i64 N) := row_cell hop 2
  have d3 : wb.cell? ⟨w.heap.size, 3, none⟩ = some v := row_cell hop 3
  have HBB : Hid (Below base w wb) := hbb.mono hb
  have HW : Hid (WAt base wb p A B G C S) := hW
  have HOP : Hid _ := hop
  have x0 : wb.cell? ⟨p, 0, none⟩ = some (.pointer (some ⟨A false, 0, none⟩)) := hW.cellS false
  have x1 : wb.cell? ⟨p, 1, none⟩ = some (.pointer (some ⟨A true, 0, none⟩)) := hW.cellS true
  have x2 : wb.cell? ⟨p, 2, none⟩ = some (.pointer (some ⟨B false, 0, none⟩)) := hW.cellX false
  have x3 : wb.cell? ⟨p, 3, none⟩ = some (.pointer (some ⟨B true, 0, none⟩)) := hW.cellX true
  have HC1 : Hid (∀ W, SpaceAt W (A k) (S k) → Calls Tryd.prog 24 #[.pointer (some ⟨A k, 0, none⟩), .int .i64 N] W fun e w' => e = .returned (.int .i64 ((S k).freeE N)) ∧ SpaceAt w' (A k) ((S k).freeS N) ∧ Kept (fun i => i = A k) W w') := fun W hW => free_any W _ _ hW N
  have HC2 : Hid (∀ W, RefAt W (B k) (G k) (C k) (S k) → Calls Tryd.prog 31 #[.pointer (some ⟨B k, 0, none⟩), .int .i64 N] W fun e w' => e = .returned (.int .i64 ((S k).freeE N)) ∧ RefAt w' (B k) (G k) (C k) ((S k).freeS N) ∧ Kept (fun i => i = G k) W w') := fun W hW => rfree_any W _ _ _ _ hW N
  have heq : ((S k).freeE N == (S k).freeE N) = true := by simp
  have HS0 : Hid (SpaceAt wb.drew (A k) (S k)) := ⟨(hW.sp k).cells, (hW.sp k).ok⟩
  have HR0 : Hid (RefAt wb.drew (B k) (G k) (C k) (S k)) := ⟨(hW.rf k).box, (hW.rf k).row, (hW.rf k).le, (hW.rf k).ok⟩
  generalize (S k).freeE N = E at HC1 HC2 heq
  have FIN : Hid (∀ w2 s', Kept (fun i => i = A k ∨ i = G k) wb w2 → SpaceAt w2 (A k) s' → RefAt w2 (B k) (G k) (C k) s' → WSome base w2 p ∧ Below base w w2) := fun w2 s' g1 g2 g3 => ⟨⟨_, _, _, _, _, hW.step k g1 g2 g3⟩, HBB.out.trans (hW.below_step k g1 hbz)⟩
  have TG1 : Hid (∀ W, Kept (fun i => i = A k) wb.drew W → RefAt W (B k) (G k) (C k) (S k) ∧ W.heap[w.heap.size]? = some (.cells #[.bool k, .int .i64 3, .int .i64 N, v] 39 (0, 0))) := fun W hk => by
    have hk' : Kept (fun i => i = A k) wb W := ⟨hk.os, hk.tape, hk.output, hk.size, hk.block⟩
    refine ⟨hW.ref_far k hk', ?_⟩
    rw [hk'.block _ (Array.getElem?_eq_some_iff.1 hop).1 (tagw hop (hW.sp k).cells (by decide))]
    exact hop
  have TG2 : Hid (∀ W, Kept (fun i => i = G k) wb.drew W → SpaceAt W (A k) (S k) ∧ W.heap[w.heap.size]? = some (.cells #[.bool k, .int .i64 3, .int .i64 N, v] 39 (0, 0))) := fun W hk => by
    have hk' : Kept (fun i => i = G k) wb W := ⟨hk.os, hk.tape, hk.output, hk.size, hk.block⟩
    obtain ⟨cj, hj⟩ := (hW.rf k).rowIs
    refine ⟨hW.sp_far k hk', ?_⟩
    rw [hk'.block _ (Array.getElem?_eq_some_iff.1 hop).1 (tagw hop hj (by decide))]
    exact hop
  clear h ht hbb hop hW htb
  have TAG : Hid (∀ W s s', SpaceAt W (A k) s → RefAt W (B k) (G k) (C k) s' → A k ≠ G k ∧ A k ≠ B k) := fun W s s' g1 g2 => by
    obtain ⟨cj, hj⟩ := g2.rowIs
    exact ⟨tagw g1.cells hj (by decide), tagw g1.cells g2.box (by decide)⟩
  cases k
  all_goals
    subst hwb
    go_enter Tryd.func11, Tryd.ntmps11
    go_wp2
    go_region_with (first
      | (go_at_call 24
         refine (HC1.out _ HS1.out).mono ?_
         rintro e w2 ⟨rfl, hs2, hk2⟩
         have HK2 : Hid _ := kept_ba HK1.out hk2
         have HR2 : Hid _ := HR1.out.kept hk2 (Ne.symm (TAG.out _ _ _ HS1.out HR1.out).2) (Ne.symm (TAG.out _ _ _ HS1.out HR1.out).1)
         have HS2 : Hid _ := hs2
         clear hs2 hk2)
      | (go_at_call 31
         refine (HC2.out _ HRX.out).mono ?_
         rintro e w2 ⟨rfl, hr2, hk2⟩
         have HK2 : Hid _ := kept_ab HKX.out hk2
         have HS2 : Hid _ := HSX.out.kept hk2 (TAG.out _ _ _ HSX.out HRX.out).1
         have HR2 : Hid _ := hr2
         clear hr2 hk2)
      | (go_at_call 24
         refine (HC1.out _ HS0.out).mono ?_
         rintro e w1 ⟨rfl, hs1, hk1⟩
         have HSX : Hid _ := hs1
         have HKX : Hid _ := hk1
         have HRX : Hid _ := (TG1.out _ hk1).1
         have d22 := row_cell (TG1.out _ hk1).2 2
         clear hs1 hk1)
      | (go_at_call 31
         refine (HC2.out _ HR0.out).mono ?_
         rintro e w1 ⟨rfl, hr1, hk1⟩
         have HR1 : Hid _ := hr1
         have HK1 : Hid _ := hk1
         have HS1 : Hid _ := (TG2.out _ hk1).1
         have d22 := row_cell (TG2.out _ hk1).2 2
         clear hr1 hk1))
    all_goals
      go_wp2_with fail
      go_ret
      have hfin := FIN.out _ _ ⟨HK2.out.os, HK2.out.tape, HK2.out.output, HK2.out.size, HK2.out.block⟩ HS2.out HR2.out
      exact ⟨rfl, hfin.1, hfin.2⟩
end Go.Proofs.YtlokplnapaghhaaDoor
