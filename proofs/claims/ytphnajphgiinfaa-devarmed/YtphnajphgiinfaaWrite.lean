/- The methods Write and Barrier, under the device's lock. -/
import Derived.Test.YtphnajphgiinfaaChange
import Derived.Deep.QuietTactic
import Derived.BigQuiet
namespace Go.Proofs.Ytphnajphgiinfaa
open Go.RowKit Go.Maps Go.MuLone Go.Sort

/-- What a change answers when the lock is let go; S: what the device may have written. -/
def EndIs (c : Nat) (b : Nat) (s : St) (R : St → Prop) (fin : St → St) (w : World) (e : Ending) (w' : World) : Prop :=
  ∃ t t', Kept (Own b s) w w' ∧ (∀ k, Own b t' k → Own b s k ∨ w.heap.size ≤ k) ∧ DevIs 0 c w' b t' ∧
    if s.ch == 1 then (if s.done then R t else t = s) ∧ t' = t.fired ∧ e = .returned (.int .i64 (if s.how == 1 then 13 else 12))
    else R t ∧ t' = fin t.ticked ∧ e = .returned (.int .i64 0)

theorem own_b {b : Nat} {s : St} : ∀ (i : Nat), i = b → Own b s i := fun _ e => .inl e

set_option maxHeartbeats 1000000 in
set_option maxRecDepth 100000 in
theorem barrier_off (c : Nat) (w : World) (b : Nat) (s : St) (h : DevIs 0 c w b s) (hoff : s.off = true) :
    Calls Try.prog 13 #[.pointer (some ⟨b, 0, none⟩)] w fun e w' => e = .returned (.int .i64 12) ∧ DevIs 0 c w' b s ∧ Kept (fun k => k = b) w w' := by
  go_enter_defers Try.func13, Try.ntmps13
  go_wp2_with fail
  refine (lock_dev c _ b s h).mono ?_
  rintro e w1 ⟨rfl, h1, k1, hs1⟩
  have c6 : w1.cell? ⟨b, 6, none⟩ = some (.bool true) := by rw [h1.cell 6, ← hoff]; rfl
  go_wp2
  refine leaves_cons (f := 28) (args := #[.pointer (some ⟨b, 2, none⟩)]) (by simp) (by simp [go_sem]) ?_
  refine (unlock_dev c .returning _ b s h1).mono ?_
  rintro e u' w2 ⟨rfl, rfl, h2, k2, hs2⟩
  exact ⟨_, results_tmp rfl _ _ _, rfl, h2, k1.trans k2 (fun _ _ x => x)⟩

/-- The device behind a Barrier that is done. -/
def settledSt (s t : St) : Prop := ∃ m D, t = { s with DL := D, mW := m, DW := .map [], waits := fun _ => [], lasts := settledTo s (fun _ => false) }

theorem settle_did (c : Nat) (W : World) (b : Nat) (s : St) (h : DevIs 1 c W b s) (hc : c ≤ 549755813888) :
    Calls Try.prog 33 #[.pointer (some ⟨b, 0, none⟩)] W fun e W' => ∃ t, e = .returned (.tuple #[]) ∧ settledSt s t ∧ DidIs (2 * c) W b s t W' := by
  refine (settle_any c W b s h hc).mono ?_
  rintro e w' ⟨m, D, rfl, hm, hd, hk⟩
  refine ⟨_, rfl, ⟨m, D, rfl⟩, ⟨hd, hk.mono (fun i _ x => x.elim (fun e => .inl e) (fun e => .inr (.inl e))), ?_, rfl, rfl, rfl, rfl⟩⟩
  intro k hk
  rcases hk with e | e | e | ⟨n, v, hv, _⟩
  · exact .inl (.inl e)
  · exact .inl (.inr (.inl e))
  · exact .inr (by rw [e]; exact hm)
  · have := valAt_has hv
    simp [Maps.has] at this

set_option maxHeartbeats 1000000 in
set_option maxRecDepth 100000 in
theorem barrier_on (c : Nat) (w : World) (b : Nat) (s : St) (h : DevIs 0 c w b s) (hc : c ≤ 549755813888) (hoff : s.off = false) :
    Calls Try.prog 13 #[.pointer (some ⟨b, 0, none⟩)] w (EndIs (2 * c) b s (settledSt s) id w) := by
  go_enter_defers Try.func13, Try.ntmps13
  go_wp2_with fail
  refine (lock_dev c _ b s h).mono ?_
  rintro e w1 ⟨rfl, h1, k1, hs1⟩
  have c6 : w1.cell? ⟨b, 6, none⟩ = some (.bool false) := by rw [h1.cell 6, ← hoff]; rfl
  go_wp2_with fail
  refine (change33_any c (2 * c) (by omega) _ b s h1 (settledSt s) (fun W hW _ => settle_did c W b s hW hc)).mono ?_
  rintro e w2 ⟨t, t', k2, ho2, h2, he⟩
  have hfin : ∃ z, e = .returned (.int .i64 z) := by
    split at he
    · exact ⟨_, he.2.2⟩
    · exact ⟨_, he.2.2⟩
  obtain ⟨z, rfl⟩ := hfin
  go_wp2
  refine leaves_cons (f := 28) (args := #[.pointer (some ⟨b, 2, none⟩)]) (by simp) (by simp [go_sem]) ?_
  refine (unlock_dev _ .returning _ b _ h2).mono ?_
  rintro e u' w3 ⟨rfl, rfl, h3, k3, hs3⟩
  refine ⟨_, results_tmp rfl _ _ _, t, t', ?_, ?_, h3, ?_⟩
  · exact ((k1.mono (fun i _ e => own_b i e)).trans k2 (fun _ _ x => x)).trans k3 (fun i _ e => own_b i e)
  · intro k hk
    exact (ho2 k hk).imp id (fun x => by omega)
  · exact he

theorem boxes3 (w : World) (x y z : Value) (tx ty tz : TypeId) :
    (((w.alloc (.cells #[x] tx)).alloc (.cells #[y] ty)).alloc (.cells #[z] tz)).cell? ⟨w.heap.size, 0, none⟩ = some x ∧
    (((w.alloc (.cells #[x] tx)).alloc (.cells #[y] ty)).alloc (.cells #[z] tz)).cell? ⟨w.heap.size + 1, 0, none⟩ = some y ∧
    (((w.alloc (.cells #[x] tx)).alloc (.cells #[y] ty)).alloc (.cells #[z] tz)).cell? ⟨w.heap.size + 1 + 1, 0, none⟩ = some z := by
  refine ⟨?_, ?_, ?_⟩ <;> go_simp

theorem below_drewN (B : Nat) (w : World) (q : Nat) : Below B w (w.drewN q) := ⟨rfl, rfl, rfl, Nat.le_refl _, fun _ _ => rfl⟩

theorem has_true (lk : Int) (c : Nat) (w : World) (b : Nat) (s : St) (h : DevIs lk c w b s) (n : Int) (hr : inRange n s.blocks = true) :
    Calls Try.prog 29 #[.pointer (some ⟨b, 0, none⟩), .int .i64 n] w fun e w' => e = .returned (.bool true) ∧ w' = w := by rw [← hr]; exact has_any lk c w b s h n
theorem has_false (lk : Int) (c : Nat) (w : World) (b : Nat) (s : St) (h : DevIs lk c w b s) (n : Int) (hr : inRange n s.blocks = false) :
    Calls Try.prog 29 #[.pointer (some ⟨b, 0, none⟩), .int .i64 n] w fun e w' => e = .returned (.bool false) ∧ w' = w := by rw [← hr]; exact has_any lk c w b s h n

set_option maxHeartbeats 1000000 in
set_option maxRecDepth 100000 in
theorem write_on (c : Nat) (w : World) (b : Nat) (s : St) (h : DevIs 0 c w b s) (hc : c ≤ 549755813888) (hoff : s.off = false) (n : Int) (hn : (Lit.int .i64 n).wf = true) (hml : (s.waits n).length ≤ 1099511627776) (hr : inRange n s.blocks = true) (bv : Value) (bs : List UInt8) (hb : bytesAt w s.size bv bs) :
    Calls Try.prog 11 #[.pointer (some ⟨b, 0, none⟩), .int .i64 n, bv] w (EndIs (c + 1) b s (fun t => ∃ v, t = s.wrote n v bs) (fun t => { t with wt := IntKind.u64.wrap (t.wt + 1) }) w) := by
  obtain ⟨gb, capb, rfl, hgb, _, _⟩ := bytesAt_form hb h.size.1
  have hbl := h.own_lt (.inl rfl)
  have hba : Below w.heap.size w (((w.alloc (.cells #[.pointer (some ⟨b, 0, none⟩)] 27)).alloc (.cells #[.int .i64 n] 3)).alloc (.cells #[.slice (some ⟨gb, 0, none⟩) s.size capb] 29)) :=
    (((Below.refl _ _).alloc (Nat.le_refl _) _).alloc (by simp) _).alloc (by simp; omega) _
  have h0 := h.below hba
  go_enter_defers Try.func11, Try.ntmps11
  go_wp2_with fail
  refine (lock_dev c _ b s h0).mono ?_
  rintro e w1 ⟨rfl, h1, k1, hs1⟩
  obtain ⟨z0, z1, z2⟩ := boxes3 w (.pointer (some ⟨b, 0, none⟩)) (.int .i64 n) (.slice (some ⟨gb, 0, none⟩) s.size capb) 27 3 29
  have x0 := kept_cell_some k1 z0 (fun e => by omega)
  have x1 := kept_cell_some k1 z1 (fun e => by omega)
  have x2 := kept_cell_some k1 z2 (fun e => by omega)
  have c6 : w1.cell? ⟨b, 6, none⟩ = some (.bool false) := by rw [h1.cell 6, ← hoff]; rfl
  have c0 : w1.cell? ⟨b, 0, none⟩ = some (.int .i64 s.size) := h1.cell 0
  have hlen : ((s.size : Int) != (s.size : Int)) = false := by simp
  go_wp2_with fail
  go_quiet ((go_at_call 29; exact Calls.quiet_of_same (has_true 1 c _ b s (h1.below (below_drewN _ _ _)) n hr)))
  have hdo : ∀ nq W, DevIs 1 c W b s → Below (w1.drewN nq).heap.size (w1.drewN nq) W → Calls Try.prog 31 #[.pointer (some ⟨w.heap.size, 0, none⟩), .pointer (some ⟨w.heap.size + 1, 0, none⟩), .pointer (some ⟨w.heap.size + 1 + 1, 0, none⟩)] W
      fun e W' => ∃ t, e = .returned (.tuple #[]) ∧ (∃ v, t = s.wrote n v bs) ∧ DidIs (c + 1) W b s t W' := by
    intro nq W hW hbW
    have kW : Kept (fun _ => False) w1 W := (Kept.of_below (below_drewN _ w1 nq)).trans (Kept.of_below (S := fun _ => False) hbW) (fun _ _ x => x)
    have kAll : Kept (fun k => k = b) w W := ((Kept.of_below (S := fun k => k = b) hba).trans k1 (fun _ _ x => x)).trans kW (fun _ _ x => x.elim)
    refine (write1_any 1 c W b s hW (by omega) n hn hml _ bs (bytes_kept hb kAll (fun g hg e => h.own_not_bytes (.inl e) hg)) _ _ _ (kept_cell_some kW x0 id) (kept_cell_some kW x1 id) (kept_cell_some kW x2 id) ?_ ?_ ?_).mono ?_
    · exact fun ho => by have := h.own_lt ho; omega
    · exact fun ho => by have := h.own_lt ho; omega
    · exact fun ho => by have := h.own_lt ho; omega
    · rintro e w' ⟨v, rfl, hd, hk, ho⟩
      exact ⟨_, rfl, ⟨v, rfl⟩, ⟨hd, hk, ho, rfl, rfl, rfl, rfl⟩⟩
  have HDO : Hid _ := hdo
  clear hdo x1 x2 c6 c0 z0 z1 z2
  go_wp2_with fail
  refine (change31_any c (c + 1) (by omega) _ b s (h1.below (below_drewN _ _ _)) (fun t => ∃ v, t = s.wrote n v bs) _ _ _ (HDO.out _)).mono ?_
  rintro e w2 ⟨t, t', k2, ho2, h2, he⟩
  have hsz1 : w.heap.size ≤ w1.heap.size := by simp at hs1; omega
  have hbb : ¬ b = w.heap.size := by omega
  have hno : ¬ Own b s w.heap.size := fun ho => by have := h.own_lt ho; omega
  have y0 : w2.cell? ⟨w.heap.size, 0, none⟩ = some (.pointer (some ⟨b, 0, none⟩)) := kept_cell_some ((Kept.of_below (S := Own b s) (below_drewN _ w1 _)).trans k2 (fun _ _ x => x)) x0 hno
  have kAll : Kept (Own b s) w w2 := (((Kept.of_below (S := Own b s) hba).trans k1 (fun i _ e => own_b i e)).trans (Kept.of_below (S := fun _ => False) (below_drewN w1.heap.size w1 _)) (fun _ _ x => x.elim)).trans k2 (fun _ _ x => x)
  have hoAll : ∀ k, Own b t' k → Own b s k ∨ w.heap.size ≤ k := fun k hk => (ho2 k hk).imp id (fun x => by simp at x; omega)
  clear x0 h0
  by_cases hch : (s.ch == 1) = true
  · rw [hch] at he
    simp only [if_true] at he
    obtain ⟨he1, rfl, rfl⟩ := he
    by_cases hh : (s.how == 1) = true
    all_goals
      simp only [hh]
      go_wp2
      refine leaves_cons (f := 28) (args := #[.pointer (some ⟨b, 2, none⟩)]) (by simp) (by simp [go_sem]) ?_
      refine (unlock_dev _ .returning _ b _ h2).mono ?_
      rintro e u' w3 ⟨rfl, rfl, h3, k3, hs3⟩
      refine ⟨_, results_tmp rfl _ _ _, t, t.fired, kAll.trans k3 (fun i _ e => own_b i e), hoAll, h3, ?_⟩
      rw [hch]
      simp only [if_true]
      exact ⟨he1, by simp, by simp [hh]⟩
  · have hch' : (s.ch == 1) = false := by simpa using hch
    rw [hch'] at he
    simp only [Bool.false_eq_true, if_false] at he
    obtain ⟨hR, rfl, rfl⟩ := he
    have c11 : w2.cell? ⟨b, 11, none⟩ = some (.int .u64 t.ticked.wt) := h2.cell 11
    have f11 := h2.frozen 11
    have h3 := h2.set (lk' := 1) (s' := { t.ticked with wt := IntKind.u64.wrap (t.ticked.wt + 1) }) 11 (.int .u64 (IntKind.u64.wrap (t.ticked.wt + 1))) rfl rfl rfl rfl rfl rfl rfl rfl rfl
    go_wp2
    refine leaves_cons (f := 28) (args := #[.pointer (some ⟨b, 2, none⟩)]) (by simp) (by simp [go_sem]) ?_
    refine (unlock_dev _ .returning _ b _ h3.1).mono ?_
    rintro e u' w3 ⟨rfl, rfl, h4, k4, hs4⟩
    refine ⟨_, results_tmp rfl _ _ _, t, { t.ticked with wt := IntKind.u64.wrap (t.ticked.wt + 1) }, (kAll.trans h3.2 (fun i _ e => own_b i e)).trans k4 (fun i _ e => own_b i e), hoAll, h4, ?_⟩
    rw [hch']
    simp only [Bool.false_eq_true, if_false]
    refine ⟨hR, ?_, ?_⟩ <;> first | trivial | rfl
end Go.Proofs.Ytphnajphgiinfaa
