/- The law's world: two spaces and the document's two. -/
import Derived.Test.YtlokplnapaghhaaDoorRefCopy
import Derived.Test.YtlokplnapaghhaaDoorRefDec
import Derived.Test.YtlokplnapaghhaaDoorLawRB
namespace Go.Proofs.YtlokplnapaghhaaDoor
open Go.RowKit

def idx (k : Bool) : Nat := if k then 1 else 0
def upd {α : Type} (f : Bool → α) (k : Bool) (x : α) : Bool → α := fun j => if j = k then x else f j
theorem upd_same {α : Type} (f : Bool → α) (k : Bool) (x : α) : upd f k x k = x := by simp [upd]
theorem upd_other {α : Type} (f : Bool → α) {k j : Bool} (x : α) (h : j ≠ k) : upd f k x j = f j := by simp [upd, h]
def wcells (A B : Bool → Nat) : Array Value := #[.pointer (some ⟨A false, 0, none⟩), .pointer (some ⟨A true, 0, none⟩), .pointer (some ⟨B false, 0, none⟩), .pointer (some ⟨B true, 0, none⟩)]
structure WAt (base : Nat) (w : World) (p : Nat) (A B G C : Bool → Nat) (S : Bool → Sp) : Prop where
  box : w.heap[p]? = some (.cells (wcells A B) 35 (0, 0))
  sp : ∀ k, SpaceAt w (A k) (S k)
  rf : ∀ k, RefAt w (B k) (G k) (C k) (S k)
  apA : A false ≠ A true
  apB : B false ≠ B true
  apG : G false ≠ G true
  lp : base ≤ p
  lA : ∀ k, base ≤ A k
  lB : ∀ k, base ≤ B k
  lG : ∀ k, base ≤ G k
section
variable {base : Nat} {w w' : World} {p : Nat} {A B G C : Bool → Nat} {S : Bool → Sp}
theorem ap_bool {f : Bool → Nat} (h : f false ≠ f true) {j k : Bool} (hjk : j ≠ k) : f j ≠ f k := by
  cases j <;> cases k <;> simp_all
  exact fun e => h e.symm
theorem WAt.lt (h : WAt base w p A B G C S) : p < w.heap.size := (Array.getElem?_eq_some_iff.1 h.box).1
theorem WAt.cellS (h : WAt base w p A B G C S) (k : Bool) : w.cell? ⟨p, idx k, none⟩ = some (.pointer (some ⟨A k, 0, none⟩)) := by
  rw [row_cell h.box]; cases k <;> rfl
theorem WAt.cellX (h : WAt base w p A B G C S) (k : Bool) : w.cell? ⟨p, 2 + idx k, none⟩ = some (.pointer (some ⟨B k, 0, none⟩)) := by
  rw [row_cell h.box]; cases k <;> rfl
theorem WAt.open (h : WAt base w p A B G C S) (i : Nat) : w.frozen? ⟨p, i, none⟩ = false := row_frozen h.box i
theorem tagw {t t' : TypeId} {cs cs' : Array Value} {z z' : Nat × Nat} {a b : Nat} (h : w.heap[a]? = some (.cells cs t z)) (h' : w.heap[b]? = some (.cells cs' t' z')) (hn : t ≠ t') : a ≠ b := by
  rintro rfl
  rw [h] at h'
  simp only [Option.some.injEq, Obj.cells.injEq] at h'
  exact hn h'.2.1
theorem WAt.below (h : WAt base w p A B G C S) (k : Below w.heap.size w w') : WAt base w' p A B G C S :=
  ⟨by rw [k.block p h.lt]; exact h.box, fun j => (h.sp j).below k, fun j => (h.rf j).below k, h.apA, h.apB, h.apG, h.lp, h.lA, h.lB, h.lG⟩
theorem RefAt.rowIs {b g c : Nat} {s : Sp} (h : RefAt w b g c s) : ∃ cur, w.heap[g]? = some (.cells cur 4 (0, 0)) := by
  obtain ⟨cur, hc, _⟩ := h.row
  exact ⟨cur, hc⟩
/-- A step on both spaces of one number. -/
theorem WAt.step (h : WAt base w p A B G C S) (k : Bool) {s : Sp} (hk : Kept (fun i => i = A k ∨ i = G k) w w') (hs : SpaceAt w' (A k) s) (hr : RefAt w' (B k) (G k) (C k) s) : WAt base w' p A B G C (upd S k s) := by
  have hAk := (h.sp k).cells
  obtain ⟨cg, hGk⟩ := (h.rf k).rowIs
  refine ⟨?_, fun j => ?_, fun j => ?_, h.apA, h.apB, h.apG, h.lp, h.lA, h.lB, h.lG⟩
  · rw [hk.block p h.lt]
    · exact h.box
    · rintro (e | e)
      · exact tagw h.box hAk (by decide) e
      · exact tagw h.box hGk (by decide) e
  · by_cases e : j = k
    · subst e; rw [upd_same]; exact hs
    · rw [upd_other _ _ e]
      refine (h.sp j).kept hk ?_
      rintro (e2 | e2)
      · exact ap_bool h.apA e e2
      · exact tagw (h.sp j).cells hGk (by decide) e2
  · by_cases e : j = k
    · subst e; rw [upd_same]; exact hr
    · rw [upd_other _ _ e]
      obtain ⟨cj, hGj⟩ := (h.rf j).rowIs
      refine (h.rf j).kept hk ?_ ?_
      · rintro (e2 | e2)
        · exact tagw (h.rf j).box hAk (by decide) e2
        · exact tagw (h.rf j).box hGk (by decide) e2
      · rintro (e2 | e2)
        · exact tagw hGj hAk (by decide) e2
        · exact ap_bool h.apG e e2
theorem WAt.below_step (h : WAt base w p A B G C S) (k : Bool) (hk : Kept (fun i => i = A k ∨ i = G k) w w') (hb : base ≤ w.heap.size) : Below base w w' :=
  Kept.below (Below.refl _ _) hk hb (fun i hi => by
    rcases hi with rfl | rfl
    · exact h.lA k
    · exact h.lG k)
theorem WAt.ref_far (h : WAt base w p A B G C S) (k : Bool) {w1 : World} (hk : Kept (fun i => i = A k) w w1) : RefAt w1 (B k) (G k) (C k) (S k) := by
  obtain ⟨cj, hGj⟩ := (h.rf k).rowIs
  exact (h.rf k).kept hk (tagw (h.rf k).box (h.sp k).cells (by decide)) (tagw hGj (h.sp k).cells (by decide))
theorem WAt.sp_far (h : WAt base w p A B G C S) (k : Bool) {w1 : World} (hk : Kept (fun i => i = G k) w w1) : SpaceAt w1 (A k) (S k) := by
  obtain ⟨cj, hGj⟩ := (h.rf k).rowIs
  exact (h.sp k).kept hk (tagw (h.sp k).cells hGj (by decide))
theorem WAt.box_far (h : WAt base w p A B G C S) (k : Bool) {w1 : World} (hk : Kept (fun i => i = A k ∨ i = G k) w w1) : w1.heap[p]? = some (.cells (wcells A B) 35 (0, 0)) := by
  obtain ⟨cg, hGk⟩ := (h.rf k).rowIs
  rw [hk.block p h.lt]
  · exact h.box
  · rintro (e | e)
    · exact tagw h.box (h.sp k).cells (by decide) e
    · exact tagw h.box hGk (by decide) e
end
theorem idx_lt (k : Bool) : idx k < 2 := by cases k <;> decide
set_option maxHeartbeats 1000000 in
theorem walloc_any (base : Nat) (w : World) (p : Nat) (A B G C : Bool → Nat) (S : Bool → Sp) (h : WAt base w p A B G C S) (ht : Tab w) (hb : base ≤ w.heap.size) (k : Bool) :
    Calls Tryd.prog 29 #[.pointer (some ⟨p, 0, none⟩), .int .i64 (idx k : Int)] w fun e w' => e = .returned (.bool true) ∧ WAt base w' p A B G C (upd S k (S k).allocS) ∧ Below base w w' := by
  have HA1 := alloc_any w (A k) (S k) (h.sp k) ht
  have H : Hid (WAt base w p A B G C S) := h
  have c0 := h.cellS k
  have c1 := h.cellX k
  have hi := idx_lt k
  have hiz : (idx k : Int) < 2 := by omega
  have hN : ((S k).allocN == (S k).allocN) = true := by simp
  have hE : ((S k).allocE == (S k).allocE) = true := by simp
  have HA2 : Hid (∀ W, RefAt W (B k) (G k) (C k) (S k) → Calls Tryd.prog 46 #[.pointer (some ⟨B k, 0, none⟩)] W fun e w' => e = .returned (.tuple #[.int .i64 (S k).allocN, .int .i64 (S k).allocE]) ∧ RefAt w' (B k) (G k) (C k) (S k).allocS ∧ Kept (fun i => i = G k) W w') := fun W hW => ralloc_any W _ _ _ _ hW
  generalize (S k).allocN = N at HA1 HA2 hN
  generalize (S k).allocE = E at HA1 HA2 hE
  clear h ht
  go_enter Tryd.func29, Tryd.ntmps29
  go_wp2_with (first
    | (go_at_call 22; refine HA1.mono ?_; rintro e w1 ⟨rfl, hs1, hk1⟩
       have HS1 : Hid (SpaceAt w1 (A k) (S k).allocS) := hs1
       have HK1 : Hid (Kept (fun i => i = A k) w w1) := hk1
       have HR1 : Hid (RefAt w1 (B k) (G k) (C k) (S k)) := H.out.ref_far k hk1
       have c2 : w1.cell? ⟨p, 2 + idx k, none⟩ = some (.pointer (some ⟨B k, 0, none⟩)) := by
         rw [row_cell (H.out.box_far k (hk1.mono (fun _ _ x => .inl x)))]; cases k <;> rfl
       clear hs1 hk1)
    | (go_at_call 46; refine (HA2.out w1 HR1.out).mono ?_; rintro e w2 ⟨rfl, hr2, hk2⟩
       have HR2 : Hid (RefAt w2 (B k) (G k) (C k) (S k).allocS) := hr2
       have HK2 : Hid (Kept (fun i => i = A k ∨ i = G k) w w2) := (HK1.out.mono (fun _ _ x => .inl x)).trans hk2 (fun _ _ x => .inr x)
       have HS2 : Hid (SpaceAt w2 (A k) (S k).allocS) := by
         obtain ⟨cj, hGj⟩ := HR1.out.rowIs
         exact HS1.out.kept hk2 (tagw HS1.out.cells hGj (by decide))
       clear hr2 hk2))
  go_ret
  exact ⟨rfl, H.out.step k HK2.out HS2.out HR2.out, H.out.below_step k HK2.out hb⟩
end Go.Proofs.YtlokplnapaghhaaDoor
