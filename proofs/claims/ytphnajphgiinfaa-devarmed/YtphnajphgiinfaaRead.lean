/- The method Read, under the device's lock. -/
import Derived.Test.YtphnajphgiinfaaShown
import Derived.Test.YtphnajphgiinfaaLocks
namespace Go.Proofs.Ytphnajphgiinfaa
open Go.RowKit Go.Maps Go.MuLone

/-- One cell of the device is written: what is behind its maps stays. -/
theorem DevIs.set {lk lk' : Int} {c : Nat} {w : World} {b : Nat} {s s' : St} (h : DevIs lk c w b s) (i : Nat) (v : Value) (he : hdr lk' s' = (hdr lk s).setIfInBounds i v)
    (e1 : s'.mL = s.mL) (e2 : s'.mW = s.mW) (e3 : s'.DL = s.DL) (e4 : s'.DW = s.DW) (e5 : s'.lasts = s.lasts) (e6 : s'.waits = s.waits) (e7 : s'.size = s.size) (e8 : s'.blocks = s.blocks) (e9 : s'.X = s.X := by rfl) :
    DevIs lk' c (w.setCell ⟨b, i, none⟩ v) b s' ∧ Kept (fun k => k = b) w (w.setCell ⟨b, i, none⟩ v) := by
  have k := setCell_kept (w := w) (b := b) (i := i) v
  have nb : ∀ g, isBytes w g → ¬ s.X g → ¬ g = b := fun g hg _ e => h.own_not_bytes (.inl e) hg
  have hnot : ∀ m : Nat, (∃ es cl, w.heap[m]? = some (.map es cl)) → ¬ m = b := fun m ⟨es, cl, hm⟩ e => by rw [e, h.cells] at hm; cases hm
  refine ⟨{ cells := ?_, mapL := ?_, mapW := ?_, apart := ?_, last := ?_, wait := ?_, rows := ?_, size := ?_, blocks := ?_, alien := ?_ }, k⟩
  · rw [he]; exact setCell_block h.cells v
  · rw [e1, e3]; exact map_kept h.mapL k (hnot _ (let ⟨es, cl, hb, _⟩ := h.mapL; ⟨es, cl, hb⟩))
  · rw [e2, e4]; exact map_kept h.mapW k (hnot _ (let ⟨es, cl, hb, _⟩ := h.mapW; ⟨es, cl, hb⟩))
  · rw [e1, e2]; exact h.apart
  · intro n
    have := last_kept (h.last n) k nb
    unfold lastAt at this ⊢
    rw [e3, e5, e7, e9]; exact this
  · intro n
    have := wait_kept (h.wait n) k nb (fun u g hu hg e => by
      obtain ⟨hne, hr⟩ := h.row hu
      obtain ⟨g', len, cap, cur, hv', hg', _⟩ := rowAt_isRow hr hne
      rw [hv'] at hg
      cases hg
      rw [show g' = b from e, h.cells] at hg'
      simp at hg')
    unfold waitAt at this ⊢
    rw [e4, e6, e7, e9]; exact this
  · rw [e4]; exact h.rows
  · rw [e7]; exact h.size
  · rw [e8]; exact h.blocks
  · rw [e9]; exact fun g hg => Nat.lt_of_lt_of_le (h.alien g hg) k.size

theorem DevIs.lock {c : Nat} {w : World} {b : Nat} {s : St} (h : DevIs 0 c w b s) : DevIs 1 c (w.setCell ⟨b, 2, none⟩ (.int .i32 1)) b s ∧ Kept (fun k => k = b) w (w.setCell ⟨b, 2, none⟩ (.int .i32 1)) :=
  h.set 2 _ rfl rfl rfl rfl rfl rfl rfl rfl rfl
theorem DevIs.unlock {c : Nat} {w : World} {b : Nat} {s : St} (h : DevIs 1 c w b s) : DevIs 0 c (w.setCell ⟨b, 2, none⟩ (.int .i32 0)) b s ∧ Kept (fun k => k = b) w (w.setCell ⟨b, 2, none⟩ (.int .i32 0)) :=
  h.set 2 _ rfl rfl rfl rfl rfl rfl rfl rfl rfl

theorem row_fresh {w : World} {base : Nat} {e : TypeId} {size : Nat} {v : Value} {n : Nat} {xs : List Value} (h : w.ownsRow base e size v n xs) {g : Nat} (hg : v.ownBlock = some g) : base ≤ g := by
  rcases h.2 with ⟨h', _⟩ | ⟨g', cap, cur, hv, hb, _⟩
  · rw [h'] at hg; cases hg
  · rw [hv] at hg; cases hg; exact hb

/-- The lock is taken; the lock is let go. -/
theorem lock_dev (c : Nat) (w : World) (b : Nat) (s : St) (h : DevIs 0 c w b s) :
    Calls Try.prog 27 #[.pointer (some ⟨b, 2, none⟩)] w fun e w' => e = .returned (.tuple #[]) ∧ DevIs 1 c w' b s ∧ Kept (fun k => k = b) w w' ∧ w'.heap.size = w.heap.size := by
  refine (lock_free Try.muLib ⟨b, 2, none⟩ w (h.cell 2) (h.frozen 2)).mono ?_
  rintro e w' ⟨rfl, rfl⟩
  exact ⟨rfl, h.lock.1, h.lock.2, by simp [World.setCell]⟩
theorem unlock_dev (c : Nat) (u : FrameMode) (w : World) (b : Nat) (s : St) (h : DevIs 1 c w b s) :
    CallsD Try.prog 28 #[.pointer (some ⟨b, 2, none⟩)] u w fun e u' w' => u' = u ∧ (e = .returned (.tuple #[]) ∧ DevIs 0 c w' b s ∧ Kept (fun k => k = b) w w' ∧ w'.heap.size = w.heap.size) := by
  refine (unlock_deferred Try.muLib ⟨b, 2, none⟩ u w (h.cell 2) (h.frozen 2)).mono ?_
  rintro e u' w' ⟨rfl, rfl, rfl⟩
  exact ⟨rfl, rfl, h.unlock.1, h.unlock.2, by simp [World.setCell]⟩

set_option maxHeartbeats 400000 in
theorem read_off (c : Nat) (w : World) (b : Nat) (s : St) (h : DevIs 0 c w b s) (n : Int) (hoff : s.off = true) :
    Calls Try.prog 26 #[.pointer (some ⟨b, 0, none⟩), .int .i64 n] w fun e w' => e = .returned (.tuple #[.slice none 0 0, .int .i64 12]) ∧ DevIs 0 c w' b s ∧ Kept (fun k => k = b) w w' := by
  go_enter_defers Try.func26, Try.ntmps26
  go_wp2_with fail
  refine (lock_dev c _ b s h).mono ?_
  rintro e w1 ⟨rfl, h1, k1, hs1⟩
  have c6 : w1.cell? ⟨b, 6, none⟩ = some (.bool true) := by rw [h1.cell 6, ← hoff]; rfl
  go_wp2
  refine leaves_cons (f := 28) (args := #[.pointer (some ⟨b, 2, none⟩)]) (by simp) (by simp [go_sem]) ?_
  refine (unlock_dev c .returning _ b s h1).mono ?_
  rintro e u' w2 ⟨rfl, rfl, h2, k2, hs2⟩
  exact ⟨_, results_tmp2 rfl _ _ _, rfl, h2, k1.trans k2 (fun _ _ x => x)⟩

set_option maxHeartbeats 400000 in
theorem read_range (c : Nat) (w : World) (b : Nat) (s : St) (h : DevIs 0 c w b s) (n : Int) (hoff : s.off = false) (hr : inRange n s.blocks = false) :
    Calls Try.prog 26 #[.pointer (some ⟨b, 0, none⟩), .int .i64 n] w fun e w' => e = .returned (.tuple #[.slice none 0 0, .int .i64 11]) ∧ DevIs 0 c w' b s ∧ Kept (fun k => k = b) w w' := by
  go_enter_defers Try.func26, Try.ntmps26
  go_wp2_with fail
  refine (lock_dev c _ b s h).mono ?_
  rintro e w1 ⟨rfl, h1, k1, hs1⟩
  have c6 : w1.cell? ⟨b, 6, none⟩ = some (.bool false) := by rw [h1.cell 6, ← hoff]; rfl
  go_wp2_with fail
  refine (has_any 1 c _ b s h1 n).mono ?_
  rintro e w' ⟨rfl, rfl⟩
  rw [hr]
  go_wp2
  refine leaves_cons (f := 28) (args := #[.pointer (some ⟨b, 2, none⟩)]) (by simp) (by simp [go_sem]) ?_
  refine (unlock_dev c .returning _ b s h1).mono ?_
  rintro e u' w2 ⟨rfl, rfl, h2, k2, hs2⟩
  exact ⟨_, results_tmp2 rfl _ _ _, rfl, h2, k1.trans k2 (fun _ _ x => x)⟩

set_option maxHeartbeats 400000 in
theorem read_bad (c : Nat) (w : World) (b : Nat) (s : St) (h : DevIs 0 c w b s) (n : Int) (hn : (Lit.int .i64 n).wf = true) (hoff : s.off = false) (hr : inRange n s.blocks = true) (hsh : shows s n = none) :
    Calls Try.prog 26 #[.pointer (some ⟨b, 0, none⟩), .int .i64 n] w fun e w' => e = .returned (.tuple #[.slice none 0 0, .int .i64 14]) ∧ DevIs 0 c w' b s ∧ Kept (fun k => k = b) w w' := by
  go_enter_defers Try.func26, Try.ntmps26
  go_wp2_with fail
  refine (lock_dev c _ b s h).mono ?_
  rintro e w1 ⟨rfl, h1, k1, hs1⟩
  have c6 : w1.cell? ⟨b, 6, none⟩ = some (.bool false) := by rw [h1.cell 6, ← hoff]; rfl
  go_wp2_with fail
  refine (has_any 1 c _ b s h1 n).mono ?_
  rintro e w' ⟨rfl, rfl⟩
  rw [hr]
  go_wp2_with fail
  refine (shown_any 1 c _ b s h1 n hn).mono ?_
  intro e w2 hsw
  unfold ShownIs at hsw
  rw [hsh] at hsw
  obtain ⟨rfl, hb⟩ := hsw
  have h2 := h1.below hb
  go_wp2
  refine leaves_cons (f := 28) (args := #[.pointer (some ⟨b, 2, none⟩)]) (by simp) (by simp [go_sem]) ?_
  refine (unlock_dev c .returning _ b s h2).mono ?_
  rintro e u' w3 ⟨rfl, rfl, h3, k3, hs3⟩
  exact ⟨_, results_tmp2 rfl _ _ _, rfl, h3, (k1.trans (Kept.of_below (S := fun _ => False) hb) (fun _ _ x => x.elim)).trans k3 (fun _ _ x => x)⟩

set_option maxHeartbeats 400000 in
theorem read_ok (c : Nat) (w : World) (b : Nat) (s : St) (h : DevIs 0 c w b s) (n : Int) (hn : (Lit.int .i64 n).wf = true) (hoff : s.off = false) (hr : inRange n s.blocks = true) (bs : List UInt8) (hsh : shows s n = some bs) :
    Calls Try.prog 26 #[.pointer (some ⟨b, 0, none⟩), .int .i64 n] w fun e w' => ∃ v, e = .returned (.tuple #[v, .int .i64 0]) ∧ w'.ownsRow w.heap.size 5 1 v s.size (bs.map encB) ∧ v ≠ .slice none 0 0 ∧
      DevIs 0 c w' b { s with rd := IntKind.u64.wrap (s.rd + 1) } ∧ Kept (fun k => k = b) w w' := by
  go_enter_defers Try.func26, Try.ntmps26
  go_wp2_with fail
  refine (lock_dev c _ b s h).mono ?_
  rintro e w1 ⟨rfl, h1, k1, hs1⟩
  have c6 : w1.cell? ⟨b, 6, none⟩ = some (.bool false) := by rw [h1.cell 6, ← hoff]; rfl
  go_wp2_with fail
  refine (has_any 1 c _ b s h1 n).mono ?_
  rintro e w' ⟨rfl, rfl⟩
  rw [hr]
  go_wp2_with fail
  refine (shown_any 1 c _ b s h1 n hn).mono ?_
  intro e w2 hsw
  unfold ShownIs at hsw
  rw [hsh] at hsw
  obtain ⟨v, rfl, hrow, hv, hb⟩ := hsw
  have h2 := h1.below hb
  have c10 : w2.cell? ⟨b, 10, none⟩ = some (.int .u64 s.rd) := h2.cell 10
  have f10 := h2.frozen 10
  go_wp2
  have h3 := h2.set (lk' := 1) (s' := { s with rd := IntKind.u64.wrap (s.rd + 1) }) 10 (.int .u64 (IntKind.u64.wrap (s.rd + 1))) rfl rfl rfl rfl rfl rfl rfl rfl rfl
  refine leaves_cons (f := 28) (args := #[.pointer (some ⟨b, 2, none⟩)]) (by simp) (by simp [go_sem]) ?_
  refine (unlock_dev c .returning _ b _ h3.1).mono ?_
  rintro e u' w3 ⟨rfl, rfl, h4, k4, hs4⟩
  have hbl := h1.own_lt (.inl rfl)
  have hne : ∀ g, v.ownBlock = some g → ¬ g = b := fun g hg e => by have := row_fresh hrow hg; omega
  exact ⟨_, results_tmp2 rfl _ _ _, v, rfl, row_base (row_kept (row_kept hrow h3.2 hne) k4 hne) (by omega), hv, h4, ((k1.trans (Kept.of_below (S := fun _ => False) hb) (fun _ _ x => x.elim)).trans h3.2 (fun _ _ x => x)).trans k4 (fun _ _ x => x)⟩
end Go.Proofs.Ytphnajphgiinfaa
