/- The law's play, more of its kinds. -/
import Derived.Test.YtlokplnapaghhaaDoorDecodedW
namespace Go.Proofs.YtlokplnapaghhaaDoor
open Go.RowKit

theorem pd_false : ((idx false : Nat) : Int) = 0 := rfl
theorem pd_true : ((idx true : Nat) : Int) = 1 := rfl
theorem WAt.place2 {base : Nat} {w w' : World} {p : Nat} {A B G C : Bool → Nat} {S : Bool → Sp} (h : WAt base w p A B G C S) (k : Bool) {N gs b g c : Nat} {s : Sp} (hN : ∀ j, A j < N ∧ B j < N ∧ G j < N) (hb : base ≤ N) (kk : Kept (fun i => i = p) w w') (hbox : w'.heap[p]? = some (.cells (wcells (upd A k gs) (upd B k b)) 35 (0, 0))) (hs : SpaceAt w' gs s) (hr : RefAt w' b g c s) (h1 : N ≤ gs) (h2 : N ≤ b) (h3 : N ≤ g) :
    WAt base w' p (upd A k gs) (upd B k b) (upd G k g) (upd C k c) (upd S k s) := by
  refine ⟨hbox, fun j => ?_, fun j => ?_, ?_, ?_, ?_, h.lp, fun j => ?_, fun j => ?_, fun j => ?_⟩
  · by_cases e : j = k
    · subst e; rw [upd_same, upd_same]; exact hs
    · rw [upd_other _ _ e, upd_other _ _ e]; exact (h.sp j).kept kk (Ne.symm (tagw h.box (h.sp j).cells (by decide)))
  · by_cases e : j = k
    · subst e; rw [upd_same, upd_same, upd_same, upd_same]; exact hr
    · rw [upd_other _ _ e, upd_other _ _ e, upd_other _ _ e, upd_other _ _ e]
      obtain ⟨cur, hcur⟩ := (h.rf j).rowIs
      exact (h.rf j).kept kk (Ne.symm (tagw h.box (h.rf j).box (by decide))) (Ne.symm (tagw h.box hcur (by decide)))
  · have := hN false; have := hN true
    cases k <;> simp [upd] <;> omega
  · have := hN false; have := hN true
    cases k <;> simp [upd] <;> omega
  · have := hN false; have := hN true
    cases k <;> simp [upd] <;> omega
  · by_cases e : j = k
    · subst e; rw [upd_same]; omega
    · rw [upd_other _ _ e]; exact h.lA j
  · by_cases e : j = k
    · subst e; rw [upd_same]; omega
    · rw [upd_other _ _ e]; exact h.lB j
  · by_cases e : j = k
    · subst e; rw [upd_same]; omega
    · rw [upd_other _ _ e]; exact h.lG j
structure Half (wb : World) (p : Nat) (A B : Bool → Nat) (k : Bool) (s : Sp) (wx : World) : Prop where
  is : ∃ gs, SpaceAt wx gs s ∧ wb.heap.size ≤ gs ∧ wx.heap[p]? = some (.cells ((wcells A B).setIfInBounds (idx (!k)) (.pointer (some ⟨gs, 0, none⟩))) 35 (0, 0)) ∧ Kept (fun i => i = p) wb wx
structure Whole2 (wb : World) (p : Nat) (A B : Bool → Nat) (k : Bool) (s : Sp) (wx : World) : Prop where
  is : ∃ gs b g c, SpaceAt wx gs s ∧ RefAt wx b g c s ∧ wb.heap.size ≤ gs ∧ wb.heap.size ≤ b ∧ wb.heap.size ≤ g ∧ wx.heap[p]? = some (.cells (wcells (upd A (!k) gs) (upd B (!k) b)) 35 (0, 0)) ∧ Kept (fun i => i = p) wb wx
theorem Half.mk' {base : Nat} {wb w1 : World} {p : Nat} {A B G C : Bool → Nat} {S : Bool → Sp} (h : WAt base wb p A B G C S) (k : Bool) {gs : Nat} {s : Sp} (hs : SpaceAt w1 gs s) (hg : wb.heap.size ≤ gs) (hb : Below wb.heap.size wb w1) : Half wb p A B k s (w1.setCell ⟨p, idx (!k), none⟩ (.pointer (some ⟨gs, 0, none⟩))) := by
  have hbx : w1.heap[p]? = some (.cells (wcells A B) 35 (0, 0)) := (hb.block p h.lt).trans h.box
  refine ⟨gs, hs.kept (setCell_kept _) (Ne.symm (tagw hbx hs.cells (by decide))), hg, heap_set_same _ hbx, (Kept.of_below hb).trans (setCell_kept _) (fun _ _ x => x)⟩
theorem Whole2.mk' {wb w2 w3 : World} {p : Nat} {A B : Bool → Nat} {k : Bool} {s : Sp} (h : Half wb p A B k s w2) (hb : Below w2.heap.size w2 w3) {b : Nat} (hr : NewRef w2 w3 b s) : Whole2 wb p A B k s (w3.setCell ⟨p, 2 + idx (!k), none⟩ (.pointer (some ⟨b, 0, none⟩))) := by
  obtain ⟨gs, hs, hg, hbx, hk⟩ := h.is
  obtain ⟨⟨g, c, hr3, hgw⟩, hbw⟩ := hr
  have hlt := (Array.getElem?_eq_some_iff.1 hbx).1
  have hbx3 := (hb.block p hlt).trans hbx
  have hsz := hk.size
  obtain ⟨cj, hj⟩ := hr3.rowIs
  have hs3 := hs.below hb
  refine ⟨gs, b, g, c, hs3.kept (setCell_kept _) (Ne.symm (tagw hbx3 hs3.cells (by decide))), hr3.kept (setCell_kept _) (Ne.symm (tagw hbx3 hr3.box (by decide))) (Ne.symm (tagw hbx3 hj (by decide))), hg, by omega, by omega, ?_, (hk.trans (Kept.of_below hb (S := fun _ => False)) (fun _ _ x => x.elim)).trans (setCell_kept _) (fun _ _ x => x)⟩
  rw [heap_set_same _ hbx3]
  cases k <;> rfl
set_option maxHeartbeats 2000000 in
set_option maxRecDepth 100000 in
theorem play7 (base : Nat) (w : World) (p : Nat) (A B G C : Bool → Nat) (S : Bool → Sp) (h : WAt base w p A B G C S) (ht : Tab w) (hb : base ≤ w.heap.size) (k : Bool) (N : Int) (v : Value) :
    Calls Tryd.prog 11 #[.pointer (some ⟨p, 0, none⟩), .agg #[.bool k, .int .i64 7, .int .i64 N, v]] w fun e w' => e = .returned (.bool true) ∧ WSome base w' p ∧ Below base w w' := by
  obtain ⟨wb, hwb⟩ : ∃ wb, wb = w.alloc (.cells #[.bool k, .int .i64 7, .int .i64 N, v] 39) := ⟨_, rfl⟩
  have hbb : Below w.heap.size w wb := by rw [hwb]; exact (Below.refl _ _).alloc (Nat.le_refl _) _
  have hop : wb.heap[w.heap.size]? = some (.cells #[.bool k, .int .i64 7, .int .i64 N, v] 39 (0, 0)) := by rw [hwb]; exact heap_alloc_last _ _
  have hW := h.below hbb
  have htb := ht.below hbb
  have hbz : base ≤ wb.heap.size := Nat.le_trans hb hbb.size
  have d0 : wb.cell? ⟨w.heap.size, 0, none⟩ = some (.bool k) := row_cell hop 0
  have d1 : wb.cell? ⟨w.heap.size, 1, none⟩ = some (.int .i64 7) := row_cell hop 1
  have d2 : wb.cell? ⟨w.heap.size, 2, none⟩ = some (.int .i64 N) := row_cell hop 2
  have d3 : wb.cell? ⟨w.heap.size, 3, none⟩ = some v := row_cell hop 3
  have HBB : Hid (Below base w wb) := hbb.mono hb
  have HW : Hid (WAt base wb p A B G C S) := hW
  have HOP : Hid _ := hop
  have x0 : wb.cell? ⟨p, 0, none⟩ = some (.pointer (some ⟨A false, 0, none⟩)) := hW.cellS false
  have x1 : wb.cell? ⟨p, 1, none⟩ = some (.pointer (some ⟨A true, 0, none⟩)) := hW.cellS true
  have x2 : wb.cell? ⟨p, 2, none⟩ = some (.pointer (some ⟨B false, 0, none⟩)) := hW.cellX false
  have x3 : wb.cell? ⟨p, 3, none⟩ = some (.pointer (some ⟨B true, 0, none⟩)) := hW.cellX true
  have HC1 : Hid (Calls Tryd.prog 33 #[.pointer (some ⟨A k, 0, none⟩)] wb.drew fun e w' => e = .returned (.pointer (some ⟨wb.heap.size, 0, none⟩)) ∧ SpaceAt w' wb.heap.size (S k) ∧ Below wb.heap.size wb w') := by
    refine (copy_any wb.drew (A k) (S k) ⟨(hW.sp k).cells, (hW.sp k).ok⟩).mono ?_
    rintro e w' ⟨h1, h2, h3⟩
    exact ⟨h1, h2, (Below.refl _ _).drew.trans h3⟩
  have HC2 : Hid (∀ w2, Kept (fun i => i = p) wb w2 → Calls Tryd.prog 34 #[.pointer (some ⟨B k, 0, none⟩)] w2.drew fun e w' => ∃ b', e = .returned (.pointer (some ⟨b', 0, none⟩)) ∧ NewRef w2 w' b' (S k) ∧ Below w2.heap.size w2 w') := fun w2 hk => by
    obtain ⟨cj, hj⟩ := (hW.rf k).rowIs
    have hr := (hW.rf k).kept hk (Ne.symm (tagw hW.box (hW.rf k).box (by decide))) (Ne.symm (tagw hW.box hj (by decide)))
    refine (rcopy_any w2.drew (B k) (G k) (C k) (S k) ⟨hr.box, hr.row, hr.le, hr.ok⟩).mono ?_
    rintro e w' ⟨b', h1, h2, h3⟩
    exact ⟨b', h1, ⟨h2.is, h2.le⟩, (Below.refl _ _).drew.trans h3⟩
  have FIN : Hid (∀ wx, Whole2 wb p A B k (S k) wx → WSome base wx p ∧ Below base w wx) := fun wx hx => by
    obtain ⟨gs, b, g, c, q1, q2, q3, q4, q5, q6, q7⟩ := hx.is
    exact ⟨⟨_, _, _, _, _, hW.place2 (!k) (N := wb.heap.size) (fun j => ⟨(hW.sp j).lt, (hW.rf j).lt, (hW.rf j).ltg⟩) hbz q7 q6 q1 q2 q3 q4 q5⟩, HBB.out.trans (Kept.below (Below.refl _ _) q7 hbz (fun i hi => by have := hW.lp; omega))⟩
  have MK1 : Hid (∀ w1 gs, SpaceAt w1 gs (S k) → wb.heap.size ≤ gs → Below wb.heap.size wb w1 → Half wb p A B k (S k) (w1.setCell ⟨p, idx (!k), none⟩ (.pointer (some ⟨gs, 0, none⟩)))) := fun w1 gs g1 g2 g3 => Half.mk' hW k g1 g2 g3
  have f0 := hW.open (idx (!k))
  have TP : Hid (∀ w1, Below wb.heap.size wb w1 → w1.cell? ⟨p, idx (!k), none⟩ = some (.pointer (some ⟨A (!k), 0, none⟩)) ∧ w1.frozen? ⟨p, idx (!k), none⟩ = false) := fun w1 g => ⟨(hW.below g).cellS (!k), (hW.below g).open _⟩
  clear h ht hbb hop hW htb
  cases k
  · simp only [Bool.not_false, idx, if_true] at MK1 TP f0
    subst hwb
    go_enter Tryd.func11, Tryd.ntmps11
    go_wp2
    go_cut [96] (fun _ wx => Half (w.alloc (.cells #[.bool false, .int .i64 7, .int .i64 N, v] 39)) p A B false (S false) wx)
    case first =>
      go_region_with (go_at_call 33; refine HC1.out.mono ?_; rintro e w1 ⟨rfl, hs1, hb1⟩
                      have HM : Hid _ := MK1.out w1 _ hs1 (Nat.le_refl _) hb1
                      obtain ⟨y0, y1⟩ := TP.out w1 hb1
                      clear hs1 hb1)
      all_goals
        go_wp2_with fail
        go_meet
        exact (by simpa using HM.out)
    case rest =>
      have HH : Hid (Half (w.alloc (.cells #[.bool false, .int .i64 7, .int .i64 N, v] 39)) p A B false (S false) wc) := hcut
      obtain ⟨gs, _, hgs, hbx, hkw⟩ := HH.out.is
      have z0 := row_cell hbx (2 + 1)
      have z1 := row_frozen hbx (2 + 1)
      have HC3 := HC2.out wc hkw
      have TP2 : Hid (∀ w3, Below wc.heap.size wc w3 → w3.heap[p]? = some (.cells ((wcells A B).setIfInBounds (idx (!false)) (.pointer (some ⟨gs, 0, none⟩))) 35 (0, 0))) := fun w3 g => (g.block p (Array.getElem?_eq_some_iff.1 hbx).1).trans hbx
      clear hcut hgs hbx hkw
      go_wp2
      go_cut [104] (fun _ wx => Whole2 (w.alloc (.cells #[.bool false, .int .i64 7, .int .i64 N, v] 39)) p A B false (S false) wx)
      case first =>
        go_region_with (go_at_call 34; refine HC3.mono ?_; rintro e w3 ⟨b3, rfl, hr3, hb3⟩
                        have HM2 : Hid _ := Whole2.mk' HH.out hb3 hr3
                        have z2 := row_cell (TP2.out w3 hb3) (2 + 1)
                        have z3 := row_frozen (TP2.out w3 hb3) (2 + 1)
                        clear hr3 hb3)
        all_goals
          go_wp2_with fail
          go_meet
          exact HM2.out
      case rest =>
        have HF : Hid _ := FIN.out _ hcut
        obtain ⟨g9, _, _, _, _, _, _, _, _, hb9, _⟩ := hcut.is
        have z9 : _ = some (Value.pointer (some ⟨g9, 0, none⟩)) := row_cell hb9 1
        clear hcut hb9
        go_wp2
        go_ret
        exact ⟨rfl, HF.out.1, HF.out.2⟩
  · simp only [Bool.not_true, idx, Bool.false_eq_true, if_false] at MK1 TP f0
    subst hwb
    go_enter Tryd.func11, Tryd.ntmps11
    go_wp2
    go_cut [96] (fun _ wx => Half (w.alloc (.cells #[.bool true, .int .i64 7, .int .i64 N, v] 39)) p A B true (S true) wx)
    case first =>
      go_region_with (go_at_call 33; refine HC1.out.mono ?_; rintro e w1 ⟨rfl, hs1, hb1⟩
                      have HM : Hid _ := MK1.out w1 _ hs1 (Nat.le_refl _) hb1
                      obtain ⟨y0, y1⟩ := TP.out w1 hb1
                      clear hs1 hb1)
      all_goals
        go_wp2_with fail
        go_meet
        exact (by simpa using HM.out)
    case rest =>
      have HH : Hid (Half (w.alloc (.cells #[.bool true, .int .i64 7, .int .i64 N, v] 39)) p A B true (S true) wc) := hcut
      obtain ⟨gs, _, hgs, hbx, hkw⟩ := HH.out.is
      have z0 := row_cell hbx (2 + 0)
      have z1 := row_frozen hbx (2 + 0)
      have HC3 := HC2.out wc hkw
      have TP2 : Hid (∀ w3, Below wc.heap.size wc w3 → w3.heap[p]? = some (.cells ((wcells A B).setIfInBounds (idx (!true)) (.pointer (some ⟨gs, 0, none⟩))) 35 (0, 0))) := fun w3 g => (g.block p (Array.getElem?_eq_some_iff.1 hbx).1).trans hbx
      clear hcut hgs hbx hkw
      go_wp2
      go_cut [104] (fun _ wx => Whole2 (w.alloc (.cells #[.bool true, .int .i64 7, .int .i64 N, v] 39)) p A B true (S true) wx)
      case first =>
        go_region_with (go_at_call 34; refine HC3.mono ?_; rintro e w3 ⟨b3, rfl, hr3, hb3⟩
                        have HM2 : Hid _ := Whole2.mk' HH.out hb3 hr3
                        have z2 := row_cell (TP2.out w3 hb3) (2 + 0)
                        have z3 := row_frozen (TP2.out w3 hb3) (2 + 0)
                        clear hr3 hb3)
        all_goals
          go_wp2_with fail
          go_meet
          exact HM2.out
      case rest =>
        have HF : Hid _ := FIN.out _ hcut
        obtain ⟨g9, _, _, _, _, _, _, _, _, hb9, _⟩ := hcut.is
        have z9 : _ = some (Value.pointer (some ⟨g9, 0, none⟩)) := row_cell hb9 0
        clear hcut hb9
        go_wp2
        go_ret
        exact ⟨rfl, HF.out.1, HF.out.2⟩
set_option maxHeartbeats 1000000 in
theorem walloc_kept (base : Nat) (w : World) (p : Nat) (A B G C : Bool → Nat) (S : Bool → Sp) (h : WAt base w p A B G C S) (ht : Tab w) (k : Bool) :
    Calls Tryd.prog 29 #[.pointer (some ⟨p, 0, none⟩), .int .i64 (idx k : Int)] w fun e w' => e = .returned (.bool true) ∧ WAt base w' p A B G C (upd S k (S k).allocS) ∧ Kept (fun i => i = A k ∨ i = G k) w w' := by
  have HA1 := alloc_any w (A k) (S k) (h.sp k) ht
  have H : Hid (WAt base w p A B G C S) := h
  have c0 := h.cellS k
  have c1 := h.cellX k
  have hi := idx_lt k
  have hiz : (idx k : Int) < 2 := by omega
  have hN : ((S k).allocN == (S k).allocN) = true := by simp
  have hE : ((S k).allocE == (S k).allocE) = true := by simp
  have HA2 : Hid (∀ W, RefAt W (B k) (G k) (C k) (S k) → Calls Tryd.prog 46 #[.pointer (some ⟨B k, 0, none⟩)] W fun e w' => e = .returned (.tuple #[.int .i64 (S k).allocN, .int .i64 (S k).allocE]) ∧ RefAt w' (B k) (G k) (C k) (S k).allocS ∧ Kept (fun i => i = G k) W w') := fun W hW => ralloc_any W _ _ _ _ hW
  generalize (S k).allocN = N at HA1 HA2 hN
  generalize (S k).allocE = E at HA1 HA2 hE
  clear h ht
  go_enter Tryd.func29, Tryd.ntmps29
  go_wp2_with (first
    | (go_at_call 22; refine HA1.mono ?_; rintro e w1 ⟨rfl, hs1, hk1⟩
       have HS1 : Hid (SpaceAt w1 (A k) (S k).allocS) := hs1
       have HK1 : Hid (Kept (fun i => i = A k) w w1) := hk1
       have HR1 : Hid (RefAt w1 (B k) (G k) (C k) (S k)) := H.out.ref_far k hk1
       have c2 : w1.cell? ⟨p, 2 + idx k, none⟩ = some (.pointer (some ⟨B k, 0, none⟩)) := by
         rw [row_cell (H.out.box_far k (hk1.mono (fun _ _ x => .inl x)))]; cases k <;> rfl
       clear hs1 hk1)
    | (go_at_call 46; refine (HA2.out w1 HR1.out).mono ?_; rintro e w2 ⟨rfl, hr2, hk2⟩
       have HR2 : Hid (RefAt w2 (B k) (G k) (C k) (S k).allocS) := hr2
       have HK2 : Hid (Kept (fun i => i = A k ∨ i = G k) w w2) := (HK1.out.mono (fun _ _ x => .inl x)).trans hk2 (fun _ _ x => .inr x)
       have HS2 : Hid (SpaceAt w2 (A k) (S k).allocS) := by
         obtain ⟨cj, hGj⟩ := HR1.out.rowIs
         exact HS1.out.kept hk2 (tagw HS1.out.cells hGj (by decide))
       clear hr2 hk2))
  go_ret
  exact ⟨rfl, H.out.step k HK2.out HS2.out HR2.out, HK2.out⟩
set_option maxHeartbeats 2000000 in
set_option maxRecDepth 100000 in
theorem play10 (base : Nat) (w : World) (p : Nat) (A B G C : Bool → Nat) (S : Bool → Sp) (h : WAt base w p A B G C S) (ht : Tab w) (hb : base ≤ w.heap.size) (k : Bool) (N : Int) (v : Value) :
    Calls Tryd.prog 11 #[.pointer (some ⟨p, 0, none⟩), .agg #[.bool k, .int .i64 10, .int .i64 N, v]] w fun e w' => e = .returned (.bool true) ∧ WSome base w' p ∧ Below base w w' := by
  obtain ⟨wb, hwb⟩ : ∃ wb, wb = w.alloc (.cells #[.bool k, .int .i64 10, .int .i64 N, v] 39) := ⟨_, rfl⟩
  have hbb : Below w.heap.size w wb := by rw [hwb]; exact (Below.refl _ _).alloc (Nat.le_refl _) _
  have hop : wb.heap[w.heap.size]? = some (.cells #[.bool k, .int .i64 10, .int .i64 N, v] 39 (0, 0)) := by rw [hwb]; exact heap_alloc_last _ _
  have hW := h.below hbb
  have htb := ht.below hbb
  have hbz : base ≤ wb.heap.size := Nat.le_trans hb hbb.size
  have d0 : wb.cell? ⟨w.heap.size, 0, none⟩ = some (.bool k) := row_cell hop 0
  have d1 : wb.cell? ⟨w.heap.size, 1, none⟩ = some (.int .i64 10) := row_cell hop 1
  have d2 : wb.cell? ⟨w.heap.size, 2, none⟩ = some (.int .i64 N) := row_cell hop 2
  have d3 : wb.cell? ⟨w.heap.size, 3, none⟩ = some v := row_cell hop 3
  have HBB : Hid (Below base w wb) := hbb.mono hb
  have HW : Hid (WAt base wb p A B G C S) := hW
  have HOP : Hid _ := hop
  have x0 : wb.cell? ⟨p, 0, none⟩ = some (.pointer (some ⟨A false, 0, none⟩)) := hW.cellS false
  have x1 : wb.cell? ⟨p, 1, none⟩ = some (.pointer (some ⟨A true, 0, none⟩)) := hW.cellS true
  have x2 : wb.cell? ⟨p, 2, none⟩ = some (.pointer (some ⟨B false, 0, none⟩)) := hW.cellX false
  have x3 : wb.cell? ⟨p, 3, none⟩ = some (.pointer (some ⟨B true, 0, none⟩)) := hW.cellX true
  have HC : Hid (∀ W (S' : Bool → Sp), WAt base W p A B G C S' → Tab W → Calls Tryd.prog 29 #[.pointer (some ⟨p, 0, none⟩), .int .i64 (idx k : Int)] W fun e w' => e = .returned (.bool true) ∧ WAt base w' p A B G C (upd S' k (S' k).allocS) ∧ Kept (fun i => i = A k ∨ i = G k) W w') := fun W S' g1 g3 => walloc_kept base W p A B G C S' g1 g3 k
  have HTB : Hid (Tab wb) := htb
  have TGS : Hid (w.heap.size ≠ A k ∧ w.heap.size ≠ G k ∧ 0 ≠ A k ∧ 0 ≠ G k ∧ base ≤ A k ∧ base ≤ G k) := by
    obtain ⟨cj, hj⟩ := (hW.rf k).rowIs
    refine ⟨tagw hop (hW.sp k).cells (by decide), tagw hop hj (by decide), Ne.symm (htb.apart (hW.sp k)), ?_, hW.lA k, hW.lG k⟩
    intro e
    have h0 := htb 0 (by decide)
    have h1 := (hW.rf k).at (i := 0) (by have := (hW.rf k).ok.low; omega)
    rw [← e, h0] at h1
    cases h1
  clear h ht hbb hop hW htb
  cases k
  · rw [pd_false] at HC
    subst hwb
    go_enter Tryd.func11, Tryd.ntmps11
    go_wp2
    go_loopw [8] (fun i wx => ∃ (m : Nat) (S' : Bool → Sp), m ≤ 65537 ∧ i = .int .i64 m ∧ WAt base wx p A B G C S' ∧ Kept (fun i => i = A false ∨ i = G false) (w.alloc (.cells #[.bool false, .int .i64 10, .int .i64 N, v] 39)) wx) (fun i _ => 65537 - (intOf i).toNat)
    case atStart => exact ⟨0, S, by omega, rfl, HW.out, Kept.refl _ _⟩
    case round =>
      obtain ⟨m, S', hm, rfl, hw, hk⟩ := hrel
      obtain ⟨t1, t2, t3, t4, t5, t6⟩ := TGS.out
      have e2 : wr.cell? ⟨w.heap.size, 2, none⟩ = some (.int .i64 N) := by
        rw [row_cell ((hk.block _ (Array.getElem?_eq_some_iff.1 HOP.out).1 (by rintro (e | e); exact t1 e; exact t2 e)).trans HOP.out)]; rfl
      have htr : Tab wr := HTB.out.kept hk (by rintro (e | e); exact t3 e; exact t4 e)
      have HCC := HC.out wr S' hw htr
      have HKR : Hid _ := hk
      have HBF : Hid (Below base w wr) := HBB.out.trans (Kept.below (Below.refl _ _) hk hbz (fun i hi => by rcases hi with rfl | rfl; exact t5; exact t6))
      have HWR : Hid _ := hw
      clear t1 t2 t3 t4 t5 t6 hk htr hw
      by_cases hN : (m : Int) < N
      · by_cases h7 : m < 65537
        · have h7z : (m : Int) < 65537 := by omega
          go_wp2_with (go_at_call 29; refine HCC.mono ?_; rintro e w2 ⟨rfl, hw2, hk2⟩; have HW2 : Hid _ := hw2; have HK2 : Hid _ := HKR.out.trans hk2 (fun _ _ x => x); clear hw2 hk2)
          exact ⟨⟨m + 1, _, by omega, by go_num, HW2.out, HK2.out⟩, by simp [intOf]; omega⟩
        · have h7z : ¬ (m : Int) < 65537 := by omega
          go_wp2
          go_ret
          exact ⟨rfl, ⟨_, _, _, _, _, HWR.out⟩, HBF.out⟩
      · go_wp2
        go_ret
        exact ⟨rfl, ⟨_, _, _, _, _, HWR.out⟩, HBF.out⟩
  · rw [pd_true] at HC
    subst hwb
    go_enter Tryd.func11, Tryd.ntmps11
    go_wp2
    go_loopw [8] (fun i wx => ∃ (m : Nat) (S' : Bool → Sp), m ≤ 65537 ∧ i = .int .i64 m ∧ WAt base wx p A B G C S' ∧ Kept (fun i => i = A true ∨ i = G true) (w.alloc (.cells #[.bool true, .int .i64 10, .int .i64 N, v] 39)) wx) (fun i _ => 65537 - (intOf i).toNat)
    case atStart => exact ⟨0, S, by omega, rfl, HW.out, Kept.refl _ _⟩
    case round =>
      obtain ⟨m, S', hm, rfl, hw, hk⟩ := hrel
      obtain ⟨t1, t2, t3, t4, t5, t6⟩ := TGS.out
      have e2 : wr.cell? ⟨w.heap.size, 2, none⟩ = some (.int .i64 N) := by
        rw [row_cell ((hk.block _ (Array.getElem?_eq_some_iff.1 HOP.out).1 (by rintro (e | e); exact t1 e; exact t2 e)).trans HOP.out)]; rfl
      have htr : Tab wr := HTB.out.kept hk (by rintro (e | e); exact t3 e; exact t4 e)
      have HCC := HC.out wr S' hw htr
      have HKR : Hid _ := hk
      have HBF : Hid (Below base w wr) := HBB.out.trans (Kept.below (Below.refl _ _) hk hbz (fun i hi => by rcases hi with rfl | rfl; exact t5; exact t6))
      have HWR : Hid _ := hw
      clear t1 t2 t3 t4 t5 t6 hk htr hw
      by_cases hN : (m : Int) < N
      · by_cases h7 : m < 65537
        · have h7z : (m : Int) < 65537 := by omega
          go_wp2_with (go_at_call 29; refine HCC.mono ?_; rintro e w2 ⟨rfl, hw2, hk2⟩; have HW2 : Hid _ := hw2; have HK2 : Hid _ := HKR.out.trans hk2 (fun _ _ x => x); clear hw2 hk2)
          exact ⟨⟨m + 1, _, by omega, by go_num, HW2.out, HK2.out⟩, by simp [intOf]; omega⟩
        · have h7z : ¬ (m : Int) < 65537 := by omega
          go_wp2
          go_ret
          exact ⟨rfl, ⟨_, _, _, _, _, HWR.out⟩, HBF.out⟩
      · go_wp2
        go_ret
        exact ⟨rfl, ⟨_, _, _, _, _, HWR.out⟩, HBF.out⟩
set_option maxHeartbeats 2000000 in
set_option maxRecDepth 100000 in
theorem play0 (base : Nat) (w : World) (p : Nat) (A B G C : Bool → Nat) (S : Bool → Sp) (h : WAt base w p A B G C S) (ht : Tab w) (hb : base ≤ w.heap.size) (k : Bool) (N : Int) (v : Value) (K : Int) (hK : (K == 1) = false ∧ (K == 2) = false ∧ (K == 3) = false ∧ (K == 4) = false ∧ (K == 5) = false ∧ (K == 6) = false ∧ (K == 7) = false ∧ (K == 8) = false ∧ (K == 9) = false ∧ (K == 10) = false) :
    Calls Tryd.prog 11 #[.pointer (some ⟨p, 0, none⟩), .agg #[.bool k, .int .i64 K, .int .i64 N, v]] w fun e w' => e = .returned (.bool true) ∧ WSome base w' p ∧ Below base w w' := by
  obtain ⟨wb, hwb⟩ : ∃ wb, wb = w.alloc (.cells #[.bool k, .int .i64 K, .int .i64 N, v] 39) := ⟨_, rfl⟩
  have hbb : Below w.heap.size w wb := by rw [hwb]; exact (Below.refl _ _).alloc (Nat.le_refl _) _
  have hop : wb.heap[w.heap.size]? = some (.cells #[.bool k, .int .i64 K, .int .i64 N, v] 39 (0, 0)) := by rw [hwb]; exact heap_alloc_last _ _
  have hW := h.below hbb
  have htb := ht.below hbb
  have hbz : base ≤ wb.heap.size := Nat.le_trans hb hbb.size
  have d0 : wb.cell? ⟨w.heap.size, 0, none⟩ = some (.bool k) := row_cell hop 0
  have d1 : wb.cell? ⟨w.heap.size, 1, none⟩ = some (.int .i64 K) := row_cell hop 1
  have d2 : wb.cell? ⟨w.heap.size, 2, none⟩ = some (.int .i64 N) := row_cell hop 2
  have d3 : wb.cell? ⟨w.heap.size, 3, none⟩ = some v := row_cell hop 3
  have HBB : Hid (Below base w wb) := hbb.mono hb
  have HW : Hid (WAt base wb p A B G C S) := hW
  have HOP : Hid _ := hop
  have x0 : wb.cell? ⟨p, 0, none⟩ = some (.pointer (some ⟨A false, 0, none⟩)) := hW.cellS false
  have x1 : wb.cell? ⟨p, 1, none⟩ = some (.pointer (some ⟨A true, 0, none⟩)) := hW.cellS true
  have x2 : wb.cell? ⟨p, 2, none⟩ = some (.pointer (some ⟨B false, 0, none⟩)) := hW.cellX false
  have x3 : wb.cell? ⟨p, 3, none⟩ = some (.pointer (some ⟨B true, 0, none⟩)) := hW.cellX true
  obtain ⟨k1, k2, k3, k4, k5, k6, k7, k8, k9, k10⟩ := hK
  clear h ht hbb hop hW htb
  cases k
  all_goals
    subst hwb
    go_enter Tryd.func11, Tryd.ntmps11
    go_wp2
    go_ret
    exact ⟨rfl, ⟨_, _, _, _, _, HW.out⟩, HBB.out⟩
end Go.Proofs.YtlokplnapaghhaaDoor
