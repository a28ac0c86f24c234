/- The device's inner method 'change': a change is done as the device is armed. -/
import Derived.Test.YtphnajphgiinfaaWrote
namespace Go.Proofs.Ytphnajphgiinfaa
open Go.RowKit Go.Maps Go.MuLone Go.Sort

/-- What a change does to a device: t behind it. -/
structure DidIs (c : Nat) (w : World) (b : Nat) (s t : St) (w' : World) : Prop where
  dev : DevIs 1 c w' b t
  kept : Kept (Own b s) w w'
  own : ∀ k, Own b t k → Own b s k ∨ w.heap.size ≤ k
  off : t.off = s.off
  ch : t.ch = s.ch
  how : t.how = s.how
  done : t.done = s.done

/-- The device behind an armed change that came. -/
def St.fired (s : St) : St := { s with ch := 0, how := 0, done := false, off := if s.how == 1 then s.off else true }
/-- The device behind a change that goes on. -/
def St.ticked (s : St) : St := { s with ch := max (wrap64 (s.ch - 1)) 0 }

/-- What 'change' answers, R being what the change does. -/
def ChangeIs (c : Nat) (b : Nat) (s : St) (R : St → Prop) (w : World) (e : Ending) (w' : World) : Prop :=
  ∃ t t', Kept (Own b s) w w' ∧ (∀ k, Own b t' k → Own b s k ∨ w.heap.size ≤ k) ∧ DevIs 1 c w' b t' ∧
    if s.ch == 1 then (if s.done then R t else t = s) ∧ t' = t.fired ∧ e = .returned (.int .i64 (if s.how == 1 then 13 else 12))
    else R t ∧ t' = t.ticked ∧ e = .returned (.int .i64 0)

/-- The box of the arming, behind the change. -/
theorem box_kept {b : Nat} {s : St} {w w2 : World} {c : Nat} {x y z : Value} (h : DevIs 1 c w b s) (k : Kept (Own b s) (w.alloc (.cells #[x, y, z] 74)) w2) :
    w2.cell? ⟨w.heap.size, 0, none⟩ = some x ∧ w2.cell? ⟨w.heap.size, 1, none⟩ = some y ∧ w2.cell? ⟨w.heap.size, 2, none⟩ = some z := by
  have hn : ¬ Own b s w.heap.size := fun ho => by have := h.own_lt ho; omega
  exact ⟨kept_cell_some k (by simp) hn, kept_cell_some k (by simp) hn, kept_cell_some k (by simp) hn⟩

theorem own_set {b : Nat} {s t : St} (e1 : t.mL = s.mL) (e2 : t.mW = s.mW) (e3 : t.DW = s.DW) {k : Nat} : Own b t k ↔ Own b s k := by
  unfold Own
  rw [e1, e2, e3]

/-- The cells of the arming are emptied. -/
theorem DevIs.disarm {lk : Int} {c : Nat} {w : World} {b : Nat} {s : St} (h : DevIs lk c w b s) :
    DevIs lk c (((w.setCell ⟨b, 7, none⟩ (.int .i64 0)).setCell ⟨b, 8, none⟩ (.int .i64 0)).setCell ⟨b, 9, none⟩ (.bool false)) b { s with ch := 0, how := 0, done := false } ∧
    Kept (fun k => k = b) w (((w.setCell ⟨b, 7, none⟩ (.int .i64 0)).setCell ⟨b, 8, none⟩ (.int .i64 0)).setCell ⟨b, 9, none⟩ (.bool false)) := by
  have h2 := h.set (lk' := lk) (s' := { s with ch := 0 }) 7 (.int .i64 0) rfl rfl rfl rfl rfl rfl rfl rfl rfl
  have h3 := h2.1.set (lk' := lk) (s' := { s with ch := 0, how := 0 }) 8 (.int .i64 0) rfl rfl rfl rfl rfl rfl rfl rfl rfl
  have h4 := h3.1.set (lk' := lk) (s' := { s with ch := 0, how := 0, done := false }) 9 (.bool false) rfl rfl rfl rfl rfl rfl rfl rfl rfl
  exact ⟨h4.1, (h2.2.trans h3.2 (fun _ _ x => x)).trans h4.2 (fun _ _ x => x)⟩

set_option maxHeartbeats 1000000 in
set_option maxRecDepth 100000 in
theorem change31_on (c c' : Nat) (w : World) (b : Nat) (s : St) (h : DevIs 1 c w b s) (R : St → Prop) (q0 q1 q2 : Nat)
    (hdo : ∀ W, DevIs 1 c W b s → Below w.heap.size w W → Calls Try.prog 31 #[.pointer (some ⟨q0, 0, none⟩), .pointer (some ⟨q1, 0, none⟩), .pointer (some ⟨q2, 0, none⟩)] W fun e W' => ∃ t, e = .returned (.tuple #[]) ∧ R t ∧ DidIs c' W b s t W')
    (hch : (s.ch == 1) = false) :
    Calls Try.prog 30 #[.pointer (some ⟨b, 0, none⟩), .func (.func 31) #[] #[.pointer (some ⟨q0, 0, none⟩), .pointer (some ⟨q1, 0, none⟩), .pointer (some ⟨q2, 0, none⟩)]] w (ChangeIs c' b s R w) := by
  have c7 : w.cell? ⟨b, 7, none⟩ = some (.int .i64 s.ch) := h.cell 7
  have c8 : w.cell? ⟨b, 8, none⟩ = some (.int .i64 s.how) := h.cell 8
  have c9 : w.cell? ⟨b, 9, none⟩ = some (.bool s.done) := h.cell 9
  have hbl := h.own_lt (.inl rfl)
  have hne : (s.ch != 1) = true := by simp [bne, hch]
  have HC : Hid ((s.ch == 1) = false) := hch
  clear hch
  go_enter Try.func30, Try.ntmps30
  go_wp2_with fail
  refine (hdo _ (h.below ((Below.refl _ _).alloc (Nat.le_refl _) _)) ((Below.refl _ _).alloc (Nat.le_refl _) _)).mono ?_
  rintro e w2 ⟨t, rfl, hR, hdid⟩
  obtain ⟨x0, x1, x2⟩ := box_kept h hdid.kept
  have y7 : w2.cell? ⟨b, 7, none⟩ = some (.int .i64 t.ch) := hdid.dev.cell 7
  have f7 := hdid.dev.frozen 7
  go_wp2
  go_ret
  have h3 := hdid.dev.set (lk' := 1) (s' := t.ticked) 7 (.int .i64 (max (wrap64 (s.ch - 1)) 0)) (by simp only [St.ticked, hdid.ch]; rfl) rfl rfl rfl rfl rfl rfl rfl rfl
  have hsz := (hdid.kept).size
  simp at hsz
  refine ⟨t, t.ticked, ?_, ?_, ?_⟩
  · exact ((Kept.of_below (S := Own b s) ((Below.refl _ _).alloc (Nat.le_refl _) _)).trans hdid.kept (fun _ _ x => x)).trans h3.2 (fun _ _ e => .inl e)
  · intro k hk
    exact (hdid.own k hk).imp id (fun x => by simp at x; omega)
  · refine ⟨h3.1, ?_⟩
    rw [HC.out]
    exact ⟨hR, rfl, rfl⟩

set_option maxHeartbeats 1000000 in
set_option maxRecDepth 100000 in
theorem change31_done (c c' : Nat) (w : World) (b : Nat) (s : St) (h : DevIs 1 c w b s) (R : St → Prop) (q0 q1 q2 : Nat)
    (hdo : ∀ W, DevIs 1 c W b s → Below w.heap.size w W → Calls Try.prog 31 #[.pointer (some ⟨q0, 0, none⟩), .pointer (some ⟨q1, 0, none⟩), .pointer (some ⟨q2, 0, none⟩)] W fun e W' => ∃ t, e = .returned (.tuple #[]) ∧ R t ∧ DidIs c' W b s t W')
    (hch : s.ch = 1) (hd : s.done = true) :
    Calls Try.prog 30 #[.pointer (some ⟨b, 0, none⟩), .func (.func 31) #[] #[.pointer (some ⟨q0, 0, none⟩), .pointer (some ⟨q1, 0, none⟩), .pointer (some ⟨q2, 0, none⟩)]] w (ChangeIs c' b s R w) := by
  have c7 : w.cell? ⟨b, 7, none⟩ = some (.int .i64 1) := by rw [← hch]; exact h.cell 7
  have c8 : w.cell? ⟨b, 8, none⟩ = some (.int .i64 s.how) := h.cell 8
  have c9 : w.cell? ⟨b, 9, none⟩ = some (.bool true) := by rw [← hd]; exact h.cell 9
  have hbl := h.own_lt (.inl rfl)
  have HC : Hid (s.ch = 1 ∧ s.done = true) := ⟨hch, hd⟩
  clear hch hd
  go_enter Try.func30, Try.ntmps30
  go_wp2_with fail
  refine (hdo _ (h.below ((Below.refl _ _).alloc (Nat.le_refl _) _)) ((Below.refl _ _).alloc (Nat.le_refl _) _)).mono ?_
  rintro e w2 ⟨t, rfl, hR, hdid⟩
  obtain ⟨x0, x1, x2⟩ := box_kept h hdid.kept
  have y6 : w2.cell? ⟨b, 6, none⟩ = some (.bool t.off) := hdid.dev.cell 6
  have y7 : w2.cell? ⟨b, 7, none⟩ = some (.int .i64 t.ch) := hdid.dev.cell 7
  have y8 : w2.cell? ⟨b, 8, none⟩ = some (.int .i64 t.how) := hdid.dev.cell 8
  have y9 : w2.cell? ⟨b, 9, none⟩ = some (.bool t.done) := hdid.dev.cell 9
  have f6 := hdid.dev.frozen 6
  have f7 := hdid.dev.frozen 7
  have f8 := hdid.dev.frozen 8
  have f9 := hdid.dev.frozen 9
  have hsz := (hdid.kept).size
  simp at hsz
  have kw : Kept (Own b s) w w2 := (Kept.of_below (S := Own b s) ((Below.refl _ _).alloc (Nat.le_refl _) _)).trans hdid.kept (fun _ _ x => x)
  have hown : ∀ k, Own b t k → Own b s k ∨ w.heap.size ≤ k := fun k hk => (hdid.own k hk).imp id (fun x => by simp at x; omega)
  obtain ⟨h3, k3⟩ := hdid.dev.disarm
  have hhow := hdid.how
  have HH : Hid (t.how = s.how) := hhow
  clear hhow
  by_cases hh : (s.how == 1) = true
  · go_wp2
    go_ret
    refine ⟨t, t.fired, kw.trans k3 (fun _ _ e => .inl e), hown, ?_, ?_⟩
    · have e : t.fired = { t with ch := 0, how := 0, done := false } := by simp only [St.fired, HH.out, hh, if_true]
      rw [e]; exact h3
    · rw [HC.out.1, HC.out.2]
      refine ⟨hR, rfl, ?_⟩
      rw [hh]; rfl
  · have hh' : (s.how == 1) = false := by simpa using hh
    clear hh
    have h4 := h3.set (lk' := 1) (s' := { t with ch := 0, how := 0, done := false, off := true }) 6 (.bool true) rfl rfl rfl rfl rfl rfl rfl rfl rfl
    go_wp2
    go_ret
    refine ⟨t, t.fired, (kw.trans k3 (fun _ _ e => .inl e)).trans h4.2 (fun _ _ e => .inl e), hown, ?_, ?_⟩
    · have e : t.fired = { t with ch := 0, how := 0, done := false, off := true } := by simp [St.fired, HH.out, hh']
      rw [e]; exact h4.1
    · rw [HC.out.1, HC.out.2]
      refine ⟨hR, rfl, ?_⟩
      rw [hh']; rfl

set_option maxHeartbeats 1000000 in
set_option maxRecDepth 100000 in
theorem change31_not (c : Nat) (w : World) (b : Nat) (s : St) (h : DevIs 1 c w b s) (R : St → Prop) (q0 q1 q2 : Nat)
    (hch : s.ch = 1) (hd : s.done = false) :
    Calls Try.prog 30 #[.pointer (some ⟨b, 0, none⟩), .func (.func 31) #[] #[.pointer (some ⟨q0, 0, none⟩), .pointer (some ⟨q1, 0, none⟩), .pointer (some ⟨q2, 0, none⟩)]] w (ChangeIs c b s R w) := by
  have c6 : w.cell? ⟨b, 6, none⟩ = some (.bool s.off) := h.cell 6
  have c7 : w.cell? ⟨b, 7, none⟩ = some (.int .i64 1) := by rw [← hch]; exact h.cell 7
  have c8 : w.cell? ⟨b, 8, none⟩ = some (.int .i64 s.how) := h.cell 8
  have c9 : w.cell? ⟨b, 9, none⟩ = some (.bool false) := by rw [← hd]; exact h.cell 9
  have f6 := h.frozen 6
  have f7 := h.frozen 7
  have f8 := h.frozen 8
  have f9 := h.frozen 9
  have hbl := h.own_lt (.inl rfl)
  have HC : Hid (s.ch = 1 ∧ s.done = false) := ⟨hch, hd⟩
  clear hch hd
  obtain ⟨h3, k3⟩ := (h.below ((Below.refl _ _).alloc (Nat.le_refl _) (.cells #[.int .i64 1, .int .i64 s.how, .bool false] 74))).disarm
  have kw : Kept (Own b s) w (w.alloc (.cells #[.int .i64 1, .int .i64 s.how, .bool false] 74)) := Kept.of_below ((Below.refl _ _).alloc (Nat.le_refl _) _)
  rw [World.setCell_alloc_past _ _ _ _ hbl, World.setCell_alloc_past _ _ _ _ (by simpa using hbl), World.setCell_alloc_past _ _ _ _ (by simpa using hbl)] at h3 k3
  by_cases hh : (s.how == 1) = true
  · go_enter Try.func30, Try.ntmps30
    go_wp2
    go_ret
    refine ⟨s, s.fired, kw.trans k3 (fun _ _ e => .inl e), fun k hk => .inl hk, ?_, ?_⟩
    · have e : s.fired = { s with ch := 0, how := 0, done := false } := by simp only [St.fired, hh, if_true]
      rw [e]; exact h3
    · rw [HC.out.1, HC.out.2]
      refine ⟨rfl, rfl, ?_⟩
      rw [hh]; rfl
  · have hh' : (s.how == 1) = false := by simpa using hh
    clear hh
    have h4 := h3.set (lk' := 1) (s' := { s with ch := 0, how := 0, done := false, off := true }) 6 (.bool true) rfl rfl rfl rfl rfl rfl rfl rfl rfl
    rw [World.setCell_alloc_past _ _ _ _ (by simpa using hbl)] at h4
    go_enter Try.func30, Try.ntmps30
    go_wp2
    go_ret
    refine ⟨s, s.fired, (kw.trans k3 (fun _ _ e => .inl e)).trans h4.2 (fun _ _ e => .inl e), fun k hk => .inl hk, ?_, ?_⟩
    · have e : s.fired = { s with ch := 0, how := 0, done := false, off := true } := by simp [St.fired, hh']
      rw [e]; exact h4.1
    · rw [HC.out.1, HC.out.2]
      refine ⟨rfl, rfl, ?_⟩
      rw [hh']; rfl

theorem change31_any (c c' : Nat) (hcc : c ≤ c') (w : World) (b : Nat) (s : St) (h : DevIs 1 c w b s) (R : St → Prop) (q0 q1 q2 : Nat)
    (hdo : ∀ W, DevIs 1 c W b s → Below w.heap.size w W → Calls Try.prog 31 #[.pointer (some ⟨q0, 0, none⟩), .pointer (some ⟨q1, 0, none⟩), .pointer (some ⟨q2, 0, none⟩)] W fun e W' => ∃ t, e = .returned (.tuple #[]) ∧ R t ∧ DidIs c' W b s t W') :
    Calls Try.prog 30 #[.pointer (some ⟨b, 0, none⟩), .func (.func 31) #[] #[.pointer (some ⟨q0, 0, none⟩), .pointer (some ⟨q1, 0, none⟩), .pointer (some ⟨q2, 0, none⟩)]] w (ChangeIs c' b s R w) := by
  by_cases h1 : s.ch = 1
  · cases hd : s.done with
    | true => exact change31_done c c' w b s h R q0 q1 q2 hdo h1 hd
    | false =>
      refine (change31_not c w b s h R q0 q1 q2 h1 hd).mono ?_
      rintro e w' ⟨t, t', a1, a2, a3, a4⟩
      exact ⟨t, t', a1, a2, a3.more hcc, a4⟩
  · exact change31_on c c' w b s h R q0 q1 q2 hdo (by simpa using h1)

set_option maxHeartbeats 1000000 in
set_option maxRecDepth 100000 in
theorem change33_on (c c' : Nat) (w : World) (b : Nat) (s : St) (h : DevIs 1 c w b s) (R : St → Prop) 
    (hdo : ∀ W, DevIs 1 c W b s → Below w.heap.size w W → Calls Try.prog 33 #[.pointer (some ⟨b, 0, none⟩)] W fun e W' => ∃ t, e = .returned (.tuple #[]) ∧ R t ∧ DidIs c' W b s t W')
    (hch : (s.ch == 1) = false) :
    Calls Try.prog 30 #[.pointer (some ⟨b, 0, none⟩), .func (.func 33) #[.pointer (some ⟨b, 0, none⟩)] #[]] w (ChangeIs c' b s R w) := by
  have c7 : w.cell? ⟨b, 7, none⟩ = some (.int .i64 s.ch) := h.cell 7
  have c8 : w.cell? ⟨b, 8, none⟩ = some (.int .i64 s.how) := h.cell 8
  have c9 : w.cell? ⟨b, 9, none⟩ = some (.bool s.done) := h.cell 9
  have hbl := h.own_lt (.inl rfl)
  have hne : (s.ch != 1) = true := by simp [bne, hch]
  have HC : Hid ((s.ch == 1) = false) := hch
  clear hch
  go_enter Try.func30, Try.ntmps30
  go_wp2_with fail
  refine (hdo _ (h.below ((Below.refl _ _).alloc (Nat.le_refl _) _)) ((Below.refl _ _).alloc (Nat.le_refl _) _)).mono ?_
  rintro e w2 ⟨t, rfl, hR, hdid⟩
  obtain ⟨x0, x1, x2⟩ := box_kept h hdid.kept
  have y7 : w2.cell? ⟨b, 7, none⟩ = some (.int .i64 t.ch) := hdid.dev.cell 7
  have f7 := hdid.dev.frozen 7
  go_wp2
  go_ret
  have h3 := hdid.dev.set (lk' := 1) (s' := t.ticked) 7 (.int .i64 (max (wrap64 (s.ch - 1)) 0)) (by simp only [St.ticked, hdid.ch]; rfl) rfl rfl rfl rfl rfl rfl rfl rfl
  have hsz := (hdid.kept).size
  simp at hsz
  refine ⟨t, t.ticked, ?_, ?_, ?_⟩
  · exact ((Kept.of_below (S := Own b s) ((Below.refl _ _).alloc (Nat.le_refl _) _)).trans hdid.kept (fun _ _ x => x)).trans h3.2 (fun _ _ e => .inl e)
  · intro k hk
    exact (hdid.own k hk).imp id (fun x => by simp at x; omega)
  · refine ⟨h3.1, ?_⟩
    rw [HC.out]
    exact ⟨hR, rfl, rfl⟩

set_option maxHeartbeats 1000000 in
set_option maxRecDepth 100000 in
theorem change33_done (c c' : Nat) (w : World) (b : Nat) (s : St) (h : DevIs 1 c w b s) (R : St → Prop) 
    (hdo : ∀ W, DevIs 1 c W b s → Below w.heap.size w W → Calls Try.prog 33 #[.pointer (some ⟨b, 0, none⟩)] W fun e W' => ∃ t, e = .returned (.tuple #[]) ∧ R t ∧ DidIs c' W b s t W')
    (hch : s.ch = 1) (hd : s.done = true) :
    Calls Try.prog 30 #[.pointer (some ⟨b, 0, none⟩), .func (.func 33) #[.pointer (some ⟨b, 0, none⟩)] #[]] w (ChangeIs c' b s R w) := by
  have c7 : w.cell? ⟨b, 7, none⟩ = some (.int .i64 1) := by rw [← hch]; exact h.cell 7
  have c8 : w.cell? ⟨b, 8, none⟩ = some (.int .i64 s.how) := h.cell 8
  have c9 : w.cell? ⟨b, 9, none⟩ = some (.bool true) := by rw [← hd]; exact h.cell 9
  have hbl := h.own_lt (.inl rfl)
  have HC : Hid (s.ch = 1 ∧ s.done = true) := ⟨hch, hd⟩
  clear hch hd
  go_enter Try.func30, Try.ntmps30
  go_wp2_with fail
  refine (hdo _ (h.below ((Below.refl _ _).alloc (Nat.le_refl _) _)) ((Below.refl _ _).alloc (Nat.le_refl _) _)).mono ?_
  rintro e w2 ⟨t, rfl, hR, hdid⟩
  obtain ⟨x0, x1, x2⟩ := box_kept h hdid.kept
  have y6 : w2.cell? ⟨b, 6, none⟩ = some (.bool t.off) := hdid.dev.cell 6
  have y7 : w2.cell? ⟨b, 7, none⟩ = some (.int .i64 t.ch) := hdid.dev.cell 7
  have y8 : w2.cell? ⟨b, 8, none⟩ = some (.int .i64 t.how) := hdid.dev.cell 8
  have y9 : w2.cell? ⟨b, 9, none⟩ = some (.bool t.done) := hdid.dev.cell 9
  have f6 := hdid.dev.frozen 6
  have f7 := hdid.dev.frozen 7
  have f8 := hdid.dev.frozen 8
  have f9 := hdid.dev.frozen 9
  have hsz := (hdid.kept).size
  simp at hsz
  have kw : Kept (Own b s) w w2 := (Kept.of_below (S := Own b s) ((Below.refl _ _).alloc (Nat.le_refl _) _)).trans hdid.kept (fun _ _ x => x)
  have hown : ∀ k, Own b t k → Own b s k ∨ w.heap.size ≤ k := fun k hk => (hdid.own k hk).imp id (fun x => by simp at x; omega)
  obtain ⟨h3, k3⟩ := hdid.dev.disarm
  have hhow := hdid.how
  have HH : Hid (t.how = s.how) := hhow
  clear hhow
  by_cases hh : (s.how == 1) = true
  · go_wp2
    go_ret
    refine ⟨t, t.fired, kw.trans k3 (fun _ _ e => .inl e), hown, ?_, ?_⟩
    · have e : t.fired = { t with ch := 0, how := 0, done := false } := by simp only [St.fired, HH.out, hh, if_true]
      rw [e]; exact h3
    · rw [HC.out.1, HC.out.2]
      refine ⟨hR, rfl, ?_⟩
      rw [hh]; rfl
  · have hh' : (s.how == 1) = false := by simpa using hh
    clear hh
    have h4 := h3.set (lk' := 1) (s' := { t with ch := 0, how := 0, done := false, off := true }) 6 (.bool true) rfl rfl rfl rfl rfl rfl rfl rfl rfl
    go_wp2
    go_ret
    refine ⟨t, t.fired, (kw.trans k3 (fun _ _ e => .inl e)).trans h4.2 (fun _ _ e => .inl e), hown, ?_, ?_⟩
    · have e : t.fired = { t with ch := 0, how := 0, done := false, off := true } := by simp [St.fired, HH.out, hh']
      rw [e]; exact h4.1
    · rw [HC.out.1, HC.out.2]
      refine ⟨hR, rfl, ?_⟩
      rw [hh']; rfl

set_option maxHeartbeats 1000000 in
set_option maxRecDepth 100000 in
theorem change33_not (c : Nat) (w : World) (b : Nat) (s : St) (h : DevIs 1 c w b s) (R : St → Prop) 
    (hch : s.ch = 1) (hd : s.done = false) :
    Calls Try.prog 30 #[.pointer (some ⟨b, 0, none⟩), .func (.func 33) #[.pointer (some ⟨b, 0, none⟩)] #[]] w (ChangeIs c b s R w) := by
  have c6 : w.cell? ⟨b, 6, none⟩ = some (.bool s.off) := h.cell 6
  have c7 : w.cell? ⟨b, 7, none⟩ = some (.int .i64 1) := by rw [← hch]; exact h.cell 7
  have c8 : w.cell? ⟨b, 8, none⟩ = some (.int .i64 s.how) := h.cell 8
  have c9 : w.cell? ⟨b, 9, none⟩ = some (.bool false) := by rw [← hd]; exact h.cell 9
  have f6 := h.frozen 6
  have f7 := h.frozen 7
  have f8 := h.frozen 8
  have f9 := h.frozen 9
  have hbl := h.own_lt (.inl rfl)
  have HC : Hid (s.ch = 1 ∧ s.done = false) := ⟨hch, hd⟩
  clear hch hd
  obtain ⟨h3, k3⟩ := (h.below ((Below.refl _ _).alloc (Nat.le_refl _) (.cells #[.int .i64 1, .int .i64 s.how, .bool false] 74))).disarm
  have kw : Kept (Own b s) w (w.alloc (.cells #[.int .i64 1, .int .i64 s.how, .bool false] 74)) := Kept.of_below ((Below.refl _ _).alloc (Nat.le_refl _) _)
  rw [World.setCell_alloc_past _ _ _ _ hbl, World.setCell_alloc_past _ _ _ _ (by simpa using hbl), World.setCell_alloc_past _ _ _ _ (by simpa using hbl)] at h3 k3
  by_cases hh : (s.how == 1) = true
  · go_enter Try.func30, Try.ntmps30
    go_wp2
    go_ret
    refine ⟨s, s.fired, kw.trans k3 (fun _ _ e => .inl e), fun k hk => .inl hk, ?_, ?_⟩
    · have e : s.fired = { s with ch := 0, how := 0, done := false } := by simp only [St.fired, hh, if_true]
      rw [e]; exact h3
    · rw [HC.out.1, HC.out.2]
      refine ⟨rfl, rfl, ?_⟩
      rw [hh]; rfl
  · have hh' : (s.how == 1) = false := by simpa using hh
    clear hh
    have h4 := h3.set (lk' := 1) (s' := { s with ch := 0, how := 0, done := false, off := true }) 6 (.bool true) rfl rfl rfl rfl rfl rfl rfl rfl rfl
    rw [World.setCell_alloc_past _ _ _ _ (by simpa using hbl)] at h4
    go_enter Try.func30, Try.ntmps30
    go_wp2
    go_ret
    refine ⟨s, s.fired, (kw.trans k3 (fun _ _ e => .inl e)).trans h4.2 (fun _ _ e => .inl e), fun k hk => .inl hk, ?_, ?_⟩
    · have e : s.fired = { s with ch := 0, how := 0, done := false, off := true } := by simp [St.fired, hh']
      rw [e]; exact h4.1
    · rw [HC.out.1, HC.out.2]
      refine ⟨rfl, rfl, ?_⟩
      rw [hh']; rfl

theorem change33_any (c c' : Nat) (hcc : c ≤ c') (w : World) (b : Nat) (s : St) (h : DevIs 1 c w b s) (R : St → Prop) 
    (hdo : ∀ W, DevIs 1 c W b s → Below w.heap.size w W → Calls Try.prog 33 #[.pointer (some ⟨b, 0, none⟩)] W fun e W' => ∃ t, e = .returned (.tuple #[]) ∧ R t ∧ DidIs c' W b s t W') :
    Calls Try.prog 30 #[.pointer (some ⟨b, 0, none⟩), .func (.func 33) #[.pointer (some ⟨b, 0, none⟩)] #[]] w (ChangeIs c' b s R w) := by
  by_cases h1 : s.ch = 1
  · cases hd : s.done with
    | true => exact change33_done c c' w b s h R  hdo h1 hd
    | false =>
      refine (change33_not c w b s h R  h1 hd).mono ?_
      rintro e w' ⟨t, t', a1, a2, a3, a4⟩
      exact ⟨t, t', a1, a2, a3.more hcc, a4⟩
  · exact change33_on c c' w b s h R  hdo (by simpa using h1)

end Go.Proofs.Ytphnajphgiinfaa
