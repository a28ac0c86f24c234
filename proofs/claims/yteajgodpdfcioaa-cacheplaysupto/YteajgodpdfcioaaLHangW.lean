/- hang and unhang: a place is put into the ring, as the last one, or taken out of it. -/
import Derived.Test.YteajgodpdfcioaaLState
namespace Go.Proofs.Yteajgodpdfcioaa.Li
open Go.RowKit Go.Maps

set_option maxHeartbeats 800000 in
set_option maxRecDepth 100000 in
theorem unhang_yes (w : World) (c b a d : Nat) (va vd : Value) (c3 : w.cell? ⟨c, 3, none⟩ = some (ptr b)) (fc3 : w.frozen? ⟨c, 3, none⟩ = false) (b4 : w.cell? ⟨b, 4, none⟩ = some (ptr a)) (b5 : w.cell? ⟨b, 5, none⟩ = some (ptr d))
    (a5 : w.cell? ⟨a, 5, none⟩ = some va) (fa5 : w.frozen? ⟨a, 5, none⟩ = false) (d4 : w.cell? ⟨d, 4, none⟩ = some vd) (fd4 : w.frozen? ⟨d, 4, none⟩ = false) :
    Calls Try.prog 55 #[ptr c, ptr b] w fun r w' => r = .returned (.tuple #[]) ∧ w' = (((w.setCell ⟨c, 3, none⟩ (ptr d)).setCell ⟨a, 5, none⟩ (ptr d)).setCell ⟨d, 4, none⟩ (ptr a)).drew := by
  have q1 := ptr_same w b
  go_enter Try.func55, Try.ntmps55
  go_wp2
  go_region
  go_end0
  exact ⟨rfl, rfl⟩
set_option maxHeartbeats 800000 in
set_option maxRecDepth 100000 in
theorem unhang_no (w : World) (c b a d f : Nat) (va vd : Value) (hq : (binOp .eql 80 (.pointer (some ⟨f, 0, none⟩)) (.pointer (some ⟨b, 0, none⟩))).run Try.prog w = .ok (.bool false) w) (c3 : w.cell? ⟨c, 3, none⟩ = some (ptr f)) (b4 : w.cell? ⟨b, 4, none⟩ = some (ptr a)) (b5 : w.cell? ⟨b, 5, none⟩ = some (ptr d))
    (a5 : w.cell? ⟨a, 5, none⟩ = some va) (fa5 : w.frozen? ⟨a, 5, none⟩ = false) (d4 : w.cell? ⟨d, 4, none⟩ = some vd) (fd4 : w.frozen? ⟨d, 4, none⟩ = false) :
    Calls Try.prog 55 #[ptr c, ptr b] w fun r w' => r = .returned (.tuple #[]) ∧ w' = ((w.setCell ⟨a, 5, none⟩ (ptr d)).setCell ⟨d, 4, none⟩ (ptr a)).drew := by
  have q1 := hq
  go_enter Try.func55, Try.ntmps55
  go_wp2
  go_region
  go_end0
  exact ⟨rfl, rfl⟩

/-- The world behind hang's stores, but for 'from'. -/
def hung (w : World) (c b a e u : Nat) : World := (((((w.setCell ⟨c, 4, none⟩ (.int .u64 ((u : Int) + 1))).setCell ⟨b, 3, none⟩ (.int .u64 ((u : Int) + 1))).setCell ⟨b, 4, none⟩ (ptr a)).setCell ⟨b, 5, none⟩ (ptr e)).setCell ⟨a, 5, none⟩ (ptr b)).setCell ⟨e, 4, none⟩ (ptr b)
theorem cell_set_far {w : World} {b i c j : Nat} (v : Value) (h : b ≠ c ∨ i ≠ j) : (w.setCell ⟨b, i, none⟩ v).cell? ⟨c, j, none⟩ = w.cell? ⟨c, j, none⟩ := by
  refine World.cell?_setCell_other _ _ _ _ (fun e => ?_)
  injection e with e1 e2
  rcases h with h | h
  · exact h e1
  · exact h e2
theorem drew2 (w : World) (q : Nat) : w.drew.drew.drewN q = w.drewN (2 + q) := by
  show ((w.drewN 1).drewN 1).drewN q = _
  rw [World.drewN_drewN, World.drewN_drewN, ← Nat.add_assoc]
theorem set_drewN (w : World) (a : Addr) (v : Value) (n : Nat) : (w.drewN n).setCell a v = (w.setCell a v).drewN n := rfl
theorem hung_c2 {w : World} {c b a e u : Nat} {v : Value} (h : w.cell? ⟨c, 2, none⟩ = some v) : (hung w c b a e u).cell? ⟨c, 2, none⟩ = some v := by
  unfold hung
  rw [cell_set_far (i := 4) _ (.inr (by decide)), cell_set_far (i := 5) _ (.inr (by decide)), cell_set_far (i := 5) _ (.inr (by decide)), cell_set_far (i := 4) _ (.inr (by decide)), cell_set_far (i := 3) _ (.inr (by decide)), cell_set_far (i := 4) _ (.inr (by decide)), h]
theorem hung_c3 {w : World} {c b a e u : Nat} {v : Value} (hbc : b ≠ c) (h : w.cell? ⟨c, 3, none⟩ = some v) : (hung w c b a e u).cell? ⟨c, 3, none⟩ = some v := by
  unfold hung
  rw [cell_set_far (i := 4) _ (.inr (by decide)), cell_set_far (i := 5) _ (.inr (by decide)), cell_set_far (i := 5) _ (.inr (by decide)), cell_set_far (i := 4) _ (.inr (by decide)), cell_set_far (i := 3) _ (.inl hbc), cell_set_far (i := 4) _ (.inr (by decide)), h]
theorem hung_f {w : World} {c b a e u : Nat} {x : Addr} : (hung w c b a e u).frozen? x = w.frozen? x := by
  unfold hung
  simp only [World.frozen?_setCell]
set_option maxHeartbeats 800000 in
set_option maxRecDepth 100000 in
theorem hang_walk (w : World) (c b a e f u : Nat) (t : Bool) (v3 v4 v5 va : Value) (hu : u < 4611686018427387904) (c2 : w.cell? ⟨c, 2, none⟩ = some (ptr e)) (c3 : w.cell? ⟨c, 3, none⟩ = some (ptr f)) (fc3 : w.frozen? ⟨c, 3, none⟩ = false) (c4 : w.cell? ⟨c, 4, none⟩ = some (.int .u64 (u : Int))) (fc4 : w.frozen? ⟨c, 4, none⟩ = false)
    (b3 : w.cell? ⟨b, 3, none⟩ = some v3) (fb3 : w.frozen? ⟨b, 3, none⟩ = false) (b4 : w.cell? ⟨b, 4, none⟩ = some v4) (fb4 : w.frozen? ⟨b, 4, none⟩ = false) (b5 : w.cell? ⟨b, 5, none⟩ = some v5) (fb5 : w.frozen? ⟨b, 5, none⟩ = false)
    (e4 : w.cell? ⟨e, 4, none⟩ = some (ptr a)) (fe4 : w.frozen? ⟨e, 4, none⟩ = false) (a5 : w.cell? ⟨a, 5, none⟩ = some va) (fa5 : w.frozen? ⟨a, 5, none⟩ = false) (hbc : b ≠ c) (hab : a ≠ b) (heb : e ≠ b) (hec : e ≠ c)
    (hq : ∀ q, (binOp .eql 80 (.pointer (some ⟨f, 0, none⟩)) (.pointer (some ⟨e, 0, none⟩))).run Try.prog ((hung w c b a e u).drewN q) = .ok (.bool t) ((hung w c b a e u).drewN q)) :
    Calls Try.prog 56 #[ptr c, ptr b] w fun r w' => r = .returned (.tuple #[]) ∧ ∃ n, w' = (if t = true then (hung w c b a e u).setCell ⟨c, 3, none⟩ (ptr b) else hung w c b a e u).drewN n := by
  have hcb := Ne.symm hbc
  have hba := Ne.symm hab
  have hbe := Ne.symm heb
  have hce := Ne.symm hec
  obtain ⟨W, hW⟩ : ∃ W, W = (hung w c b a e u).drew.drew := ⟨_, rfl⟩
  have k2 : W.cell? ⟨c, 2, none⟩ = some (ptr e) := by rw [hW, World.cell?_drew, World.cell?_drew]; exact hung_c2 c2
  have k3 : W.cell? ⟨c, 3, none⟩ = some (ptr f) := by rw [hW, World.cell?_drew, World.cell?_drew]; exact hung_c3 hbc c3
  have kf : W.frozen? ⟨c, 3, none⟩ = false := by rw [hW, World.frozen?_drew, World.frozen?_drew]; exact hung_f.trans fc3
  have kq : ∀ q, (binOp .eql 80 (.pointer (some ⟨f, 0, none⟩)) (.pointer (some ⟨e, 0, none⟩))).run Try.prog (W.drewN q) = .ok (.bool t) (W.drewN q) := fun q => by
    rw [hW, drew2]
    exact hq _
  have HW : Hid (W = (hung w c b a e u).drew.drew) := hW
  clear hq
  unfold hung at hW
  go_enter Try.func56, Try.ntmps56
  go_wp2
  go_region
  go_wp2
  go_region
  rw [← hW]
  clear hW c2 c3 fc3 c4 fc4 b3 fb3 b4 fb4 b5 fb5 e4 fe4 a5 fa5
  cases t with
  | true =>
    go_wp2_with fail
    go_quiet (fail)
    go_wp2_with fail
    go_end0
    exact ⟨rfl, 2 + nq, by rw [HW.out, drew2]; exact set_drewN _ _ _ _⟩
  | false =>
    go_wp2_with fail
    go_quiet (fail)
    go_wp2_with fail
    go_end0
    exact ⟨rfl, 2 + nq, by rw [HW.out, drew2]⟩

end Go.Proofs.Yteajgodpdfcioaa.Li
