/- What becomes of a block that waits: the device's inner method 'meet'. -/
import Derived.Test.YtphnajphgiinfaaPending
import Derived.RegionTactic
import Derived.ChangeAlike
namespace Go.Proofs.Ytphnajphgiinfaa
open Go.RowKit Go.Maps Go.MuLone Go.Sort

theorem below_drew (B : Nat) (w : World) : Below B w w.drew := ⟨rfl, rfl, rfl, Nat.le_refl _, fun _ _ => rfl⟩

theorem key_ne {m n : Int} (h : m ≠ n) : key m ≠ key n := fun e => h (by simpa [key] using e)

theorem isMap_of {w : World} {R : Value → Option (DataW Value × List MemPlace)} {m c : Nat} {D : DataW Value} (h : w.ownsMap Try.prog 3 R m c D) : IsMap D := by
  obtain ⟨es, cl, _, _, _, hD⟩ := h
  exact ⟨_, hD⟩

theorem valAt_put {D : DataW Value} (hD : IsMap D) (n : Int) (v : Value) : valAt (D.put (key n) (.held v)) n v := fun zd => atKey_put_same (k := key n) hD (by trivial) _ _
theorem valAt_put_other {D : DataW Value} {m n : Int} (hne : m ≠ n) (v u : Value) : valAt (D.put (key n) (.held v)) m u ↔ valAt D m u := by
  unfold valAt
  simp only [atKey_put_other (key_ne hne)]

/-- What a block lasts as. -/
def St.put (s : St) (n : Int) (v : Value) (r : Option (List UInt8)) : St := { s with DL := s.DL.put (key n) (.held v), lasts := fun m => if m = n then some r else s.lasts m }

def keptIs (w : World) (X : Nat → Prop) (size : Nat) (v : Value) (r : Option (List UInt8)) : Prop :=
  match r with
  | none => v = .agg #[.slice none 0 0, .bool true]
  | some bs => ∃ u, v = .agg #[u, .bool false] ∧ refAt w X size u bs

theorem putL_is {lk : Int} {c : Nat} {w w' : World} {b : Nat} {s : St} {n : Int} {v : Value} {r : Option (List UInt8)} (h : DevIs lk c w b s)
    (hown : w'.ownsMap Try.prog 3 hL s.mL (c + 1) (s.DL.put (key n) (.held v))) (hg : w.grownBy w' (some s.mL)) (hv : keptIs w s.X s.size v r) :
    DevIs lk (c + 1) w' b (s.put n v r) ∧ Kept (fun k => k = s.mL) w w' := by
  have k : Kept (fun k => k = s.mL) w w' := Kept.of_grown hg (fun k e => by cases e; rfl)
  have nb : ∀ g, isBytes w g → ¬ s.X g → ¬ g = s.mL := fun g hg _ e => h.own_not_bytes (.inr (.inl e)) hg
  obtain ⟨es, cl, hmL, _⟩ := h.mapL
  refine ⟨{ cells := ?_, mapL := hown, mapW := ?_, apart := h.apart, last := ?_, wait := ?_, rows := h.rows, size := h.size, blocks := h.blocks, alien := fun g hg => Nat.lt_of_lt_of_le (h.alien g hg) k.size }, k⟩
  · exact (k.block b (h.own_lt (.inl rfl)) (fun e => by have hc := h.cells; rw [e, hmL] at hc; cases hc)).trans h.cells
  · exact (map_kept h.mapW k (fun e => h.apart e.symm)).mono (Nat.le_succ c)
  · intro m
    by_cases e : m = n
    · subst e
      unfold lastAt
      simp only [St.put, if_pos]
      cases r with
      | none =>
        have hv' : v = .agg #[.slice none 0 0, .bool true] := hv
        subst hv'
        exact valAt_put (isMap_of h.mapL) m _
      | some bs =>
        obtain ⟨u, rfl, hu⟩ := hv
        exact ⟨u, valAt_put (isMap_of h.mapL) m _, ref_kept hu k nb⟩
    · have hm := last_kept (h.last m) k nb
      unfold lastAt at hm ⊢
      simp only [St.put, if_neg e, valAt_put_other e, has_put_other (key_ne e)]
      exact hm
  · intro m
    refine wait_kept (s := s.put n v r) (h.wait m) k nb (fun u g hu hg e => ?_)
    obtain ⟨hne, hr⟩ := h.row hu
    obtain ⟨g', len, cap, cur, hv', hg', _⟩ := rowAt_isRow hr hne
    rw [hv'] at hg
    cases hg
    rw [show g' = s.mL from e, hmL] at hg'
    simp at hg'

theorem kept_form {X : Nat → Prop} {w : World} {size : Nat} {v : Value} {r : Option (List UInt8)} (hv : keptIs w X size v r) (hs : 1 ≤ size) : hL v = some (.held v, []) := by
  cases r with
  | none => have hv' : v = .agg #[.slice none 0 0, .bool true] := hv; subst hv'; rfl
  | some bs =>
    obtain ⟨u, rfl, hu⟩ := hv
    obtain ⟨g, cap, rfl, _⟩ := bytesAt_form hu.1 hs
    rfl

/-- The store into 'lasts', as an equation. -/
theorem storeL {lk : Int} {c : Nat} {w : World} {b : Nat} {s : St} {n : Int} (hn : (Lit.int .i64 n).wf = true) {v : Value} {r : Option (List UInt8)} (h : DevIs lk c w b s) (hc : c ≤ 1099511627776) (hv : keptIs w s.X s.size v r) :
    ∃ w', (Instr.mapUpdate 71 (.map (some s.mL)) (.int .i64 n) v).run Try.prog w = .ok () w' ∧ DevIs lk (c + 1) w' b (s.put n v r) ∧ Kept (fun k => k = s.mL) w w' ∧ w'.heap.size = w.heap.size := by
  obtain ⟨es, cl, hmL, F, hs, hD⟩ := h.mapL
  obtain ⟨es', cl', hrun, _⟩ := Maps.fit_store (R' := hL) law3 Try.underlying71 hmL F (by unfold maxLen; omega) (fun _ _ _ _ hz => hz) (key_of hn) (kept_form hv h.size.1)
  obtain ⟨w', hrun', h1, h2⟩ := h.mapL.update law3 Try.underlying71 (by unfold maxLen; omega) (key_of hn) (kept_form hv h.size.1)
  have hr := putL_is h h1 h2 hv
  refine ⟨w', hrun', hr.1, hr.2, ?_⟩
  rw [hrun] at hrun'
  cases hrun'
  simp [ChangeMaps.setBlock]

set_option maxHeartbeats 400000 in
set_option maxRecDepth 100000 in
theorem meet_write (lk : Int) (c : Nat) (w : World) (b : Nat) (s : St) (h : DevIs lk c w b s) (hc : c ≤ 1099511627776) (n fate : Int) (hn : (Lit.int .i64 n).wf = true) (bs : List UInt8) (h1 : 1 ≤ fate) (hf : (s.waits n)[(fate - 1).toNat]? = some bs) :
    Calls Try.prog 35 #[.pointer (some ⟨b, 0, none⟩), .int .i64 n, .int .i64 fate] w fun e w' => ∃ v, e = .returned (.tuple #[]) ∧ DevIs lk (c + 1) w' b (s.put n v (some bs)) ∧ Kept (fun k => k = s.mL) w w' ∧ w'.heap.size = w.heap.size := by
  have hne : s.waits n ≠ [] := by intro e; rw [e] at hf; cases hf
  have hlen : (fate - 1).toNat < (s.waits n).length := (List.getElem?_eq_some_iff.1 hf).1
  obtain ⟨v, hv, hr⟩ := waitAt_some (h.wait n) hne
  obtain ⟨g, cap, rfl, hg, _, hp, hm, hcell⟩ := rowAt_form hr hne
  have hlook := lookW h.mapW hn hv
  obtain ⟨u, hu, hub⟩ := hcell _ bs hf
  obtain ⟨gu, capu, rfl, _⟩ := bytesAt_form hub.1 h.size.1
  have c5 : w.cell? ⟨b, 5, none⟩ = some (.map (some s.mW)) := h.cell 5
  have c4 : w.cell? ⟨b, 4, none⟩ = some (.map (some s.mL)) := h.cell 4
  obtain ⟨w1, hrun, hd, hk, hsz⟩ := storeL hn (v := .agg #[.slice (some ⟨gu, 0, none⟩) s.size capu, .bool false]) (r := some bs) (h.below (below_drew _ w)) hc ⟨_, rfl, hub⟩
  generalize (s.waits n).length = len at *
  unfold maxLen at hm
  have hl2 : fate ≤ (len : Int) := by omega
  have HD : Hid (DevIs lk (c + 1) w1 b (s.put n (.agg #[.slice (some ⟨gu, 0, none⟩) s.size capu, .bool false]) (some bs)) ∧ Kept (fun k => k = s.mL) w w1 ∧ w1.heap.size = w.heap.size) := ⟨hd, (Kept.of_below (S := fun k => k = s.mL) (below_drew _ w)).trans hk (fun _ _ x => x), hsz⟩
  rw [show (fate - 1).toNat = fate.toNat - 1 from by omega] at hu
  clear h hr hcell hv hne hub hd hk hsz hf
  go_enter Try.func35, Try.ntmps35
  go_wp2
  go_region
  go_wp2
  go_end0
  exact ⟨_, rfl, HD.out⟩

set_option maxHeartbeats 400000 in
set_option maxRecDepth 100000 in
theorem meet_garble (lk : Int) (c : Nat) (w : World) (b : Nat) (s : St) (h : DevIs lk c w b s) (hc : c ≤ 1099511627776) (n : Int) (hn : (Lit.int .i64 n).wf = true) (hne : s.waits n ≠ []) (fate : Int) (hf : fate = ((s.waits n).length : Int) + 1) (hm3 : (s.waits n).length ≤ 1099511627776) :
    Calls Try.prog 35 #[.pointer (some ⟨b, 0, none⟩), .int .i64 n, .int .i64 fate] w fun e w' => ∃ v, e = .returned (.tuple #[]) ∧ DevIs lk (c + 1) w' b (s.put n v none) ∧ Kept (fun k => k = s.mL) w w' ∧ w'.heap.size = w.heap.size := by
  obtain ⟨v, hv, hr⟩ := waitAt_some (h.wait n) hne
  obtain ⟨g, cap, rfl, hg, _, hp, hm, hcell⟩ := rowAt_form hr hne
  have hlook := lookW h.mapW hn hv
  have c5 : w.cell? ⟨b, 5, none⟩ = some (.map (some s.mW)) := h.cell 5
  have c4 : w.cell? ⟨b, 4, none⟩ = some (.map (some s.mL)) := h.cell 4
  obtain ⟨w1, hrun, hd⟩ := storeL hn (v := .agg #[.slice none 0 0, .bool true]) (r := none) h hc rfl
  generalize (s.waits n).length = len at *
  have hl2 : (len : Int) < fate := by omega
  have hl3 : 1 ≤ fate := by omega
  have HD : Hid (DevIs lk (c + 1) w1 b (s.put n (.agg #[.slice none 0 0, .bool true]) none) ∧ Kept (fun k => k = s.mL) w w1 ∧ w1.heap.size = w.heap.size) := hd
  have hb : (fate == (len : Int) + 1) = true := by rw [beq_iff_eq]; exact hf
  have hm2 : (len : Int) ≤ 1099511627776 := by omega
  clear h hr hcell hv hne hd hf hm hm3
  go_enter Try.func35, Try.ntmps35
  go_wp2
  go_end0
  exact ⟨_, rfl, HD.out⟩

set_option maxHeartbeats 400000 in
set_option maxRecDepth 100000 in
theorem meet_none (lk : Int) (c : Nat) (w : World) (b : Nat) (s : St) (h : DevIs lk c w b s) (n : Int) (hn : (Lit.int .i64 n).wf = true) (hne : s.waits n ≠ []) (fate : Int) (hf : fate < 1 ∨ ((s.waits n).length : Int) + 1 < fate) (hm3 : (s.waits n).length ≤ 1099511627776) :
    Calls Try.prog 35 #[.pointer (some ⟨b, 0, none⟩), .int .i64 n, .int .i64 fate] w fun e w' => e = .returned (.tuple #[]) ∧ w' = w := by
  obtain ⟨v, hv, hr⟩ := waitAt_some (h.wait n) hne
  obtain ⟨g, cap, rfl, hg, _, hp, hm, hcell⟩ := rowAt_form hr hne
  have hlook := lookW h.mapW hn hv
  have c5 : w.cell? ⟨b, 5, none⟩ = some (.map (some s.mW)) := h.cell 5
  generalize (s.waits n).length = len at *
  have hb : (fate == (len : Int) + 1) = false := by rw [beq_eq_false_iff_ne]; omega
  have hm2 : (len : Int) ≤ 1099511627776 := by omega
  clear h hr hcell hv hne hm hm3
  rcases hf with hf | hf
  · have hd : decide (1 ≤ fate) = false := by simpa using hf
    go_enter Try.func35, Try.ntmps35
    go_wp2
    go_end0
    exact ⟨rfl, rfl⟩
  · have h1 : 1 ≤ fate := by omega
    have h2 : (len : Int) < fate := by omega
    go_enter Try.func35, Try.ntmps35
    go_wp2
    go_end0
    exact ⟨rfl, rfl⟩
end Go.Proofs.Ytphnajphgiinfaa
