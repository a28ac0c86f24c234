/- What a block shows: the device's inner method 'shown'. -/
import Derived.Test.YtphnajphgiinfaaClone
import Derived.Deep.DeepMust
namespace Go.Proofs.Ytphnajphgiinfaa
open Go.RowKit Go.Maps

/-- What a block shows; none: it cannot be read. -/
def shows (s : St) (n : Int) : Option (List UInt8) :=
  match (s.waits n).getLast? with
  | some bs => some bs
  | none => match s.lasts n with
    | none => some (List.replicate s.size 0)
    | some r => r

theorem below_grown {w w' : World} {B : Nat} (h : w.grownBy w' none) (hB : B ≤ w.heap.size) : Below B w w' :=
  ⟨h.os, h.tape, h.output, h.size, fun k hk => h.block k (Nat.lt_of_lt_of_le hk hB) (by simp)⟩

theorem row_base {w : World} {base base' : Nat} {e : TypeId} {size : Nat} {v : Value} {n : Nat} {xs : List Value} (h : w.ownsRow base e size v n xs) (hb : base' ≤ base) : w.ownsRow base' e size v n xs := by
  refine ⟨h.1, ?_⟩
  rcases h.2 with h' | ⟨g, cap, cur, hv, hg, r⟩
  · exact .inl h'
  · exact .inr ⟨g, cap, cur, hv, Nat.le_trans hb hg, r⟩

/-- The row of what waits, as the walk reads it. -/
theorem rowAt_form {X : Nat → Prop} {w : World} {n : Nat} {v : Value} {l : List (List UInt8)} (h : rowAt w X n v l) (hl : l ≠ []) :
    ∃ g cap, v = .slice (some ⟨g, 0, none⟩) l.length cap ∧ g < w.heap.size ∧ (∀ i, w.frozen? ⟨g, i, none⟩ = false) ∧ 1 ≤ l.length ∧ l.length ≤ maxLen ∧
      ∀ (i : Nat) bs, l[i]? = some bs → ∃ u, w.cell? ⟨g, i, none⟩ = some u ∧ refAt w X n u bs := by
  obtain ⟨vs, h1, h2, h3⟩ := h
  have hpos : 1 ≤ l.length := List.length_pos_iff.2 hl
  rcases h1.2 with ⟨_, h'⟩ | ⟨g, cap, cur, hv, _, hg, hnc, hcm, hcs, ht⟩
  · omega
  · refine ⟨g, cap, by rw [← h2]; exact hv, (Array.getElem?_eq_some_iff.1 hg).1, fun i => by simp [World.frozen?, hg], hpos, by omega, fun i bs hi => ?_⟩
    have hlt : i < vs.length := by rw [h2]; exact (List.getElem?_eq_some_iff.1 hi).1
    refine ⟨vs[i], ?_, h3 i _ _ (List.getElem?_eq_getElem hlt) hi⟩
    have e : cur[i]? = some vs[i] := by
      have : (cur.toList.take (vs.length * 1))[i]? = some vs[i] := by rw [ht]; exact List.getElem?_eq_getElem hlt
      rw [List.getElem?_take] at this
      split at this
      · simpa using this
      · cases this
    simp [World.cell?, hg, e]

set_option maxHeartbeats 400000 in
set_option maxRecDepth 100000 in
theorem shown_wait (lk : Int) (c : Nat) (w : World) (b : Nat) (s : St) (h : DevIs lk c w b s) (n : Int) (hn : (Lit.int .i64 n).wf = true) (bs : List UInt8) (hw : (s.waits n).getLast? = some bs) :
    Calls Try.prog 41 #[.pointer (some ⟨b, 0, none⟩), .int .i64 n] w fun e w' => ∃ v, e = .returned (.tuple #[v, .int .i64 0]) ∧ w'.ownsRow w.heap.size 5 1 v s.size (bs.map encB) ∧ v ≠ .slice none 0 0 ∧ Below w.heap.size w w' := by
  have hne : s.waits n ≠ [] := by intro e; rw [e] at hw; cases hw
  obtain ⟨v, hv, hr⟩ := waitAt_some (h.wait n) hne
  obtain ⟨g, cap, rfl, hg, _, hp, hm, hcell⟩ := rowAt_form hr hne
  have hlook := lookW h.mapW hn hv
  obtain ⟨u, hu, hub⟩ := hcell ((s.waits n).length - 1) bs (by rw [← hw, List.getLast?_eq_getElem?])
  have c5 : w.cell? ⟨b, 5, none⟩ = some (.map (some s.mW)) := h.cell 5
  have hs1 := h.size.1
  have hs2 := h.size.2
  generalize (s.waits n).length = len at *
  unfold maxLen at hm
  clear h hr hcell hv hw hne
  go_enter Try.func41, Try.ntmps41
  go_wp2_with (go_at_call 32; refine (clone_any _ _ bs _ hub.1 hs1 hs2).mono ?_; rintro e w' ⟨v', rfl, hrow, hnil, hbel⟩)
  go_ret2
  exact ⟨v', rfl, hrow, hnil, hbel⟩

/-- Noughts. -/
theorem zeroBytes (n : Nat) : (List.replicate n (0 : UInt8)).map encB = List.replicate n (.int .u8 0) := by
  rw [List.map_replicate]; rfl

set_option maxHeartbeats 400000 in
set_option maxRecDepth 100000 in
theorem shown_zero (lk : Int) (c : Nat) (w : World) (b : Nat) (s : St) (h : DevIs lk c w b s) (n : Int) (hn : (Lit.int .i64 n).wf = true) (hw : s.waits n = []) (hl : s.lasts n = none) :
    Calls Try.prog 41 #[.pointer (some ⟨b, 0, none⟩), .int .i64 n] w fun e w' => ∃ v, e = .returned (.tuple #[v, .int .i64 0]) ∧ w'.ownsRow w.heap.size 5 1 v s.size ((List.replicate s.size (0 : UInt8)).map encB) ∧ v ≠ .slice none 0 0 ∧ Below w.heap.size w w' := by
  obtain ⟨i0, hi, hz0, hz1, hz2⟩ := info5'
  have hlook := lookW_none h.mapW hn (waitAt_none (h.wait n) hw)
  have hL := h.last n
  unfold lastAt at hL
  rw [hl] at hL
  have hlook2 := lookL_none h.mapL hn hL
  have c5 : w.cell? ⟨b, 5, none⟩ = some (.map (some s.mW)) := h.cell 5
  have c4 : w.cell? ⟨b, 4, none⟩ = some (.map (some s.mL)) := h.cell 4
  have c0 : w.cell? ⟨b, 0, none⟩ = some (.int .i64 s.size) := h.cell 0
  have hlt := h.own_lt (.inl rfl)
  have hs1 := h.size.1
  have hs2 := h.size.2
  rw [zeroBytes]
  clear h hL hw hl
  go_enter Try.func41, Try.ntmps41
  go_wp2_with (at_make; go_must (refine wpList_make_full _ rfl _ _ 29 rfl w.heap.size 5 i0 (.int .u8 0) 1 Try.underlying29 hi hz0 hz1 _ _ _ _ s.size rfl rfl rfl rfl (by rw [hz2]; omega) (by unfold maxLen; omega) (by simp) ?_); intro w0 hown0 hg0)
  rw [madeBytes, show (w.alloc (Obj.cells #[Value.slice none 0 0, Value.bool false] 87)).heap.size = w.heap.size + 1 from by simp] at hown0
  go_ret2
  exact ⟨.slice (some ⟨w.heap.size + 1, 0, none⟩) s.size s.size, rfl, hown0, by simp, ((Below.refl _ _).alloc (Nat.le_refl _) _).trans (below_grown hg0 (by simp))⟩

set_option maxHeartbeats 400000 in
set_option maxRecDepth 100000 in
theorem shown_bad (lk : Int) (c : Nat) (w : World) (b : Nat) (s : St) (h : DevIs lk c w b s) (n : Int) (hn : (Lit.int .i64 n).wf = true) (hw : s.waits n = []) (hl : s.lasts n = some none) :
    Calls Try.prog 41 #[.pointer (some ⟨b, 0, none⟩), .int .i64 n] w fun e w' => e = .returned (.tuple #[.slice none 0 0, .int .i64 14]) ∧ Below w.heap.size w w' := by
  have hlook := lookW_none h.mapW hn (waitAt_none (h.wait n) hw)
  have hL := h.last n
  unfold lastAt at hL
  rw [hl] at hL
  have hlook2 := lookL h.mapL hn hL
  have c5 : w.cell? ⟨b, 5, none⟩ = some (.map (some s.mW)) := h.cell 5
  have c4 : w.cell? ⟨b, 4, none⟩ = some (.map (some s.mL)) := h.cell 4
  clear h hL hw hl
  go_enter Try.func41, Try.ntmps41
  go_wp2
  go_ret2
  exact ⟨rfl, (Below.refl _ _).alloc (Nat.le_refl _) _⟩

set_option maxHeartbeats 400000 in
set_option maxRecDepth 100000 in
theorem shown_last (lk : Int) (c : Nat) (w : World) (b : Nat) (s : St) (h : DevIs lk c w b s) (n : Int) (hn : (Lit.int .i64 n).wf = true) (bs : List UInt8) (hw : s.waits n = []) (hl : s.lasts n = some (some bs)) :
    Calls Try.prog 41 #[.pointer (some ⟨b, 0, none⟩), .int .i64 n] w fun e w' => ∃ v, e = .returned (.tuple #[v, .int .i64 0]) ∧ w'.ownsRow w.heap.size 5 1 v s.size (bs.map encB) ∧ v ≠ .slice none 0 0 ∧ Below w.heap.size w w' := by
  have hlook := lookW_none h.mapW hn (waitAt_none (h.wait n) hw)
  have hL := h.last n
  unfold lastAt at hL
  rw [hl] at hL
  obtain ⟨u, hu, hub⟩ := hL
  have hlook2 := lookL h.mapL hn hu
  have c5 : w.cell? ⟨b, 5, none⟩ = some (.map (some s.mW)) := h.cell 5
  have c4 : w.cell? ⟨b, 4, none⟩ = some (.map (some s.mL)) := h.cell 4
  have hs1 := h.size.1
  have hs2 := h.size.2
  obtain ⟨g, cap, rfl, hg, _, _⟩ := bytesAt_form hub.1 hs1
  clear h hu hw hl
  go_enter Try.func41, Try.ntmps41
  go_wp2_with (go_at_call 32; refine (clone_any _ _ bs _ (row_kept hub.1 (Kept.of_below (S := fun _ => False) ((Below.refl _ _).alloc (Nat.le_refl _) _)) (fun _ _ => id)) hs1 hs2).mono ?_; rintro e w' ⟨v', rfl, hrow, hnil, hbel⟩)
  go_ret2
  exact ⟨v', rfl, row_base hrow (by simp), hnil, ((Below.refl _ _).alloc (Nat.le_refl _) _).trans (hbel.mono (by simp))⟩

/-- What 'shown' answers. -/
def ShownIs (s : St) (n : Int) (w : World) (e : Ending) (w' : World) : Prop :=
  match shows s n with
  | some bs => ∃ v, e = .returned (.tuple #[v, .int .i64 0]) ∧ w'.ownsRow w.heap.size 5 1 v s.size (bs.map encB) ∧ v ≠ .slice none 0 0 ∧ Below w.heap.size w w'
  | none => e = .returned (.tuple #[.slice none 0 0, .int .i64 14]) ∧ Below w.heap.size w w'

theorem shown_any (lk : Int) (c : Nat) (w : World) (b : Nat) (s : St) (h : DevIs lk c w b s) (n : Int) (hn : (Lit.int .i64 n).wf = true) :
    Calls Try.prog 41 #[.pointer (some ⟨b, 0, none⟩), .int .i64 n] w (ShownIs s n w) := by
  unfold ShownIs shows
  cases hw : (s.waits n).getLast? with
  | some bs => exact shown_wait lk c w b s h n hn bs hw
  | none =>
    have hw' : s.waits n = [] := by simpa using hw
    cases hl : s.lasts n with
    | none => exact shown_zero lk c w b s h n hn hw' hl
    | some r => cases r with
      | none => exact shown_bad lk c w b s h n hn hw' hl
      | some bs => exact shown_last lk c w b s h n hn bs hw' hl
end Go.Proofs.Ytphnajphgiinfaa
