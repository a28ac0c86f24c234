/- The method Flip, of a block that can be read. -/
import Derived.Test.YtphnajphgiinfaaFlip
import Derived.Laws.BitsAllLaws
namespace Go.Proofs.Ytphnajphgiinfaa
open Go.RowKit Go.Maps Go.MuLone Go.Sort

/-- Bytes of which one is turned. -/
def turned (bs : List UInt8) (k : Nat) (x : UInt8) : List UInt8 := bs.set k ((bs[k]?.getD 0) ^^^ x)

theorem xor_byte (y x : UInt8) : bits .xor .u8 (y.toNat : Int) (x.toNat : Int) = ((y ^^^ x).toNat : Int) := by
  rw [u8_xor_nat _ _ (UInt8.toNat_lt y) (UInt8.toNat_lt x), UInt8.toNat_xor]

/-- New bytes, one of which is turned; nothing else has changed. -/
theorem turned_row {w1 w2 : World} {gv size capv k : Nat} {bs : List UInt8} {x : UInt8} (hb : Below w1.heap.size w1 w2) (hrow : w2.ownsRow w1.heap.size 5 1 (.slice (some ⟨gv, 0, none⟩) size capv) size (bs.map encB)) :
    (w2.setCell ⟨gv, k, none⟩ (.int .u8 (bits .xor .u8 ((bs[k]?.getD 0).toNat : Int) (x.toNat : Int)))).ownsRow w1.heap.size 5 1 (.slice (some ⟨gv, 0, none⟩) size capv) size ((turned bs k x).map encB) ∧
    Below w1.heap.size w1 (w2.setCell ⟨gv, k, none⟩ (.int .u8 (bits .xor .u8 ((bs[k]?.getD 0).toNat : Int) (x.toNat : Int)))) := by
  obtain ⟨h1, h2⟩ := hrow.stored k (.int .u8 (bits .xor .u8 ((bs[k]?.getD 0).toNat : Int) (x.toNat : Int)))
  have hg : w1.heap.size ≤ gv := row_fresh hrow rfl
  refine ⟨?_, hb.trans (below_row h2 (fun g e => by cases e; exact hg) hb.size)⟩
  have e : (turned bs k x).map encB = (bs.map encB).set k (.int .u8 (bits .xor .u8 ((bs[k]?.getD 0).toNat : Int) (x.toNat : Int))) := by
    rw [xor_byte]
    unfold turned
    rw [List.map_set]
    rfl
  rw [e]
  exact h1

set_option maxHeartbeats 1000000 in
set_option maxRecDepth 100000 in
theorem flip_last (c : Nat) (w : World) (b : Nat) (s : St) (h : DevIs 0 c w b s) (hc : c ≤ 1099511627776) (hoff : s.off = false) (n : Int) (k : Nat) (x : UInt8) (hn : (Lit.int .i64 n).wf = true) (hr : inRange n s.blocks = true) (hk : k < s.size) (bs : List UInt8) (hsh : shows s n = some bs) (hw : s.waits n = []) :
    Calls Try.prog 23 #[.pointer (some ⟨b, 0, none⟩), .int .i64 n, .int .i64 k, .int .u8 (x.toNat : Int)] w fun e w' => ∃ v, e = .returned (.int .i64 0) ∧ DevIs 0 (c + 1) w' b (s.put n v (some (turned bs k x))) ∧ Kept (Own b s) w w' := by
  have ha1 : ¬ (k : Int) < 0 := by omega
  have ha2 : ¬ (s.size : Int) ≤ (k : Int) := by omega
  go_enter_defers Try.func23, Try.ntmps23
  go_wp2_with fail
  refine (lock_dev c _ b s h).mono ?_
  rintro e w1 ⟨rfl, h1, k1, hs1⟩
  have c6 : w1.cell? ⟨b, 6, none⟩ = some (.bool false) := by rw [h1.cell 6, ← hoff]; rfl
  have c0 : w1.cell? ⟨b, 0, none⟩ = some (.int .i64 s.size) := h1.cell 0
  go_wp2_with fail
  refine (has_any 1 c _ b s h1 n).mono ?_
  rintro e w' ⟨rfl, rfl⟩
  rw [hr]
  go_wp2_with fail
  refine (shown_any 1 c _ b s h1 n hn).mono ?_
  intro e w2 hsw
  unfold ShownIs at hsw
  rw [hsh] at hsw
  obtain ⟨v, rfl, hrow, hv, hb⟩ := hsw
  have h2 := h1.below hb
  have hbl : bs.length = s.size := by have := hrow.1; simpa using this
  obtain ⟨gv, capv, rfl, hgv, hfz, hcells⟩ := bytesAt_form (row_base hrow (Nat.zero_le _) : bytesAt w2 _ _ bs) h.size.1
  have hcell : w2.cell? ⟨gv, k, none⟩ = some (.int .u8 ((bs[k]?.getD 0).toNat : Int)) := by
    have hkb : k < bs.length := by omega
    have := hcells k (encB bs[k]) (by simp [List.getElem?_eq_getElem hkb])
    simpa [encB, List.getElem?_eq_getElem hkb] using this
  have hfk := hfz k
  have hs4 : (s.size : Int) ≤ 4096 := by have := h.size.2; omega
  obtain ⟨hrow3, hb3⟩ := turned_row (x := x) (k := k) hb hrow
  have hgf : w'.heap.size ≤ gv := row_fresh hrow rfl
  have hbs := h1.own_lt (.inl rfl)
  generalize bs[k]?.getD 0 = y at *
  have h3 := h1.below hb3
  have hub : refAt (w2.setCell ⟨gv, k, none⟩ (.int .u8 (bits .xor .u8 (y.toNat : Int) (x.toNat : Int)))) s.X s.size (.slice (some ⟨gv, 0, none⟩) s.size capv) (turned bs k x) := ⟨row_base hrow3 (Nat.zero_le _), fun g e hx => by cases e; exact absurd (h1.alien gv hx) (by omega)⟩
  have hlook := lookW_none h3.mapW hn (waitAt_none (h3.wait n) hw)
  obtain ⟨w4, hrun4, h4, k4, hs4'⟩ := storeL hn (v := .agg #[.slice (some ⟨gv, 0, none⟩) s.size capv, .bool false]) (r := some (turned bs k x)) h3 hc ⟨_, rfl, hub⟩
  have d4 : (w2.setCell ⟨gv, k, none⟩ (.int .u8 (bits .xor .u8 (y.toNat : Int) (x.toNat : Int)))).cell? ⟨b, 4, none⟩ = some (.map (some s.mL)) := h3.cell 4
  have d5 : (w2.setCell ⟨gv, k, none⟩ (.int .u8 (bits .xor .u8 (y.toNat : Int) (x.toNat : Int)))).cell? ⟨b, 5, none⟩ = some (.map (some s.mW)) := h3.cell 5
  have hne : ¬ gv = b := by omega
  have HD : Hid (DevIs 1 (c + 1) w4 b (s.put n (.agg #[.slice (some ⟨gv, 0, none⟩) s.size capv, .bool false]) (some (turned bs k x))) ∧ Kept (Own b s) w w4) := ⟨h4, ((k1.mono (fun i _ e => own_b i e)).trans (Kept.of_below (S := fun _ => False) hb3) (fun _ _ x => x.elim)).trans k4 (fun i _ e => .inr (.inl e))⟩
  clear hcells hfz hub h3 h4 k4 hrow3 hb3 hrow hsh hs4' h2
  go_wp2
  obtain ⟨h4, k4⟩ := HD.out
  refine leaves_cons (f := 28) (args := #[.pointer (some ⟨b, 2, none⟩)]) (by simp) (by simp [go_sem]) ?_
  refine (unlock_dev _ .returning _ b _ h4).mono ?_
  rintro e u' w5 ⟨rfl, rfl, h5, k5, hs5⟩
  exact ⟨_, results_tmp rfl _ _ _, _, rfl, h5, k4.trans k5 (fun i _ e => own_b i e)⟩

/-- The newest write that waits of a block is another one. -/
def St.rewait (s : St) (n : Int) (bs : List UInt8) : St := { s with waits := fun m => if m = n then (s.waits n).dropLast ++ [bs] else s.waits m }

theorem rewait_is {c : Nat} {w : World} {b : Nat} {s : St} (h : DevIs 1 c w b s) {n : Int} {g cap : Nat} {v : Value} {bs : List UInt8} (hne : s.waits n ≠ []) (hv : valAt s.DW n (.slice (some ⟨g, 0, none⟩) (s.waits n).length cap)) (hu : refAt w s.X s.size v bs) :
    DevIs 1 c (w.setCell ⟨g, (s.waits n).length - 1, none⟩ v) b (s.rewait n bs) ∧ Kept (fun k => k = g) w (w.setCell ⟨g, (s.waits n).length - 1, none⟩ v) := by
  have k := setCell_kept (w := w) (b := g) (i := (s.waits n).length - 1) v
  have hown : Own b s g := .inr (.inr (.inr ⟨n, _, hv, rfl⟩))
  have nb : ∀ i, isBytes w i → ¬ s.X i → ¬ i = g := fun i hi _ e => h.own_not_bytes (e ▸ hown) hi
  obtain ⟨_, hr⟩ := h.row hv
  obtain ⟨vs, h1, h2, h3⟩ := hr
  obtain ⟨g', len', cap', cur, hv', hg', _⟩ := rowAt_isRow ⟨vs, h1, h2, h3⟩ hne
  have hgg : g' = g := by simp at hv'; exact hv'.1.symm
  subst hgg
  have notG : ∀ i o, w.heap[i]? = some o → (∀ cur, o ≠ .cells cur 29 (0, 0)) → ¬ i = g' := fun i o hi ho e => by rw [e, hg'] at hi; cases hi; exact ho cur rfl
  obtain ⟨es, cl, hmW, _⟩ := h.mapW
  obtain ⟨es2, cl2, hmL, _⟩ := h.mapL
  refine ⟨{ cells := ?_, mapL := ?_, mapW := ?_, apart := h.apart, last := ?_, wait := ?_, rows := h.rows, size := h.size, blocks := h.blocks, alien := fun i hi => Nat.lt_of_lt_of_le (h.alien i hi) k.size }, k⟩
  · exact (k.block b (h.own_lt (.inl rfl)) (notG b _ h.cells (fun _ => by simp))).trans h.cells
  · exact map_kept h.mapL k (notG _ _ hmL (fun _ => by simp))
  · exact map_kept h.mapW k (notG _ _ hmW (fun _ => by simp))
  · intro m
    exact last_kept (s := s.rewait n bs) (h.last m) k nb
  · intro m
    by_cases e : m = n
    · subst e
      unfold waitAt
      have hw : (s.rewait m bs).waits m = (s.waits m).dropLast ++ [bs] := by simp [St.rewait]
      rw [hw]
      have : ∃ x r, (s.waits m).dropLast ++ [bs] = x :: r := by cases (s.waits m).dropLast <;> simp
      obtain ⟨x, r, hxr⟩ := this
      rw [hxr]
      show ∃ v, valAt s.DW m v ∧ rowAt (w.setCell ⟨g', (s.waits m).length - 1, none⟩ _) s.X s.size v (x :: r)
      rw [← hxr]
      have hpos : 1 ≤ (s.waits m).length := List.length_pos_iff.2 hne
      have h1' : w.ownsRow 0 29 1 (.slice (some ⟨g', 0, none⟩) vs.length cap) vs.length vs := by rw [← h2] at h1; exact h1
      obtain ⟨hst, _⟩ := h1'.stored ((s.waits m).length - 1) v
      refine ⟨_, hv, vs.set ((s.waits m).length - 1) v, ?_, by simp [h2]; omega, fun i y bs' hy hb => ?_⟩
      · rw [List.length_set]; rw [← h2] at hst ⊢; exact hst
      · by_cases hi : i = (s.waits m).length - 1
        · subst hi
          rw [List.getElem?_set_self (by omega)] at hy
          rw [List.getElem?_append_right (by simp)] at hb
          simp at hy hb
          subst hy; subst hb
          exact ref_kept hu k nb
        · rw [List.getElem?_set_ne (Ne.symm hi)] at hy
          have hil : i < (s.waits m).length - 1 := by
            have := (List.getElem?_eq_some_iff.1 hb).1
            simp at this
            omega
          rw [List.getElem?_append_left (by simp; omega), List.getElem?_dropLast, if_pos (by omega)] at hb
          exact ref_kept (h3 i y bs' hy hb) k nb
    · have hm := h.wait m
      have := wait_kept hm k nb (fun v' i hv2 hi e2 => h.rows m n v' _ hv2 hv e (by rw [hi, e2]; rfl))
      unfold waitAt at this ⊢
      have hw : (s.rewait n bs).waits m = s.waits m := by simp [St.rewait, e]
      rw [hw]
      exact this

set_option maxHeartbeats 1000000 in
set_option maxRecDepth 100000 in
theorem flip_wait (c : Nat) (w : World) (b : Nat) (s : St) (h : DevIs 0 c w b s) (hoff : s.off = false) (n : Int) (k : Nat) (x : UInt8) (hn : (Lit.int .i64 n).wf = true) (hr : inRange n s.blocks = true) (hk : k < s.size) (bs : List UInt8) (hsh : shows s n = some bs) (hw : s.waits n ≠ []) (hml : (s.waits n).length ≤ 1099511627776) :
    Calls Try.prog 23 #[.pointer (some ⟨b, 0, none⟩), .int .i64 n, .int .i64 k, .int .u8 (x.toNat : Int)] w fun e w' => e = .returned (.int .i64 0) ∧ DevIs 0 c w' b (s.rewait n (turned bs k x)) ∧ Kept (Own b s) w w' := by
  have ha1 : ¬ (k : Int) < 0 := by omega
  have ha2 : ¬ (s.size : Int) ≤ (k : Int) := by omega
  go_enter_defers Try.func23, Try.ntmps23
  go_wp2_with fail
  refine (lock_dev c _ b s h).mono ?_
  rintro e w1 ⟨rfl, h1, k1, hs1⟩
  have c6 : w1.cell? ⟨b, 6, none⟩ = some (.bool false) := by rw [h1.cell 6, ← hoff]; rfl
  have c0 : w1.cell? ⟨b, 0, none⟩ = some (.int .i64 s.size) := h1.cell 0
  go_wp2_with fail
  refine (has_any 1 c _ b s h1 n).mono ?_
  rintro e w' ⟨rfl, rfl⟩
  rw [hr]
  go_wp2_with fail
  refine (shown_any 1 c _ b s h1 n hn).mono ?_
  intro e w2 hsw
  unfold ShownIs at hsw
  rw [hsh] at hsw
  obtain ⟨v, rfl, hrow, hv, hb⟩ := hsw
  have h2 := h1.below hb
  have hbl : bs.length = s.size := by have := hrow.1; simpa using this
  obtain ⟨gv, capv, rfl, hgv, hfz, hcells⟩ := bytesAt_form (row_base hrow (Nat.zero_le _) : bytesAt w2 _ _ bs) h.size.1
  have hcell : w2.cell? ⟨gv, k, none⟩ = some (.int .u8 ((bs[k]?.getD 0).toNat : Int)) := by
    have hkb : k < bs.length := by omega
    have := hcells k (encB bs[k]) (by simp [List.getElem?_eq_getElem hkb])
    simpa [encB, List.getElem?_eq_getElem hkb] using this
  have hfk := hfz k
  have hs4 : (s.size : Int) ≤ 4096 := by have := h.size.2; omega
  obtain ⟨hrow3, hb3⟩ := turned_row (x := x) (k := k) hb hrow
  have hgf : w'.heap.size ≤ gv := row_fresh hrow rfl
  have hbs := h1.own_lt (.inl rfl)
  generalize bs[k]?.getD 0 = y at *
  have h3 := h1.below hb3
  have hub : refAt (w2.setCell ⟨gv, k, none⟩ (.int .u8 (bits .xor .u8 (y.toNat : Int) (x.toNat : Int)))) s.X s.size (.slice (some ⟨gv, 0, none⟩) s.size capv) (turned bs k x) := ⟨row_base hrow3 (Nat.zero_le _), fun g e hx => by cases e; exact absurd (h1.alien gv hx) (by omega)⟩
  obtain ⟨rv, hrv, hrrow⟩ := waitAt_some (h3.wait n) hw
  obtain ⟨g, cap, rfl, hg, hgfz, hp, hm, hgc⟩ := rowAt_form hrrow hw
  have hlook := lookW h3.mapW hn hrv
  obtain ⟨h4, k4⟩ := rewait_is h3 hw hrv hub
  obtain ⟨ul, hul, hx9⟩ := hgc ((s.waits n).length - 1) ((s.waits n)[(s.waits n).length - 1]'(by omega)) (List.getElem?_eq_getElem (by omega))
  have hgfl := hgfz ((s.waits n).length - 1)
  have hgo : Own b s g := .inr (.inr (.inr ⟨n, _, hrv, rfl⟩))
  have d5 : (w2.setCell ⟨gv, k, none⟩ (.int .u8 (bits .xor .u8 (y.toNat : Int) (x.toNat : Int)))).cell? ⟨b, 5, none⟩ = some (.map (some s.mW)) := h3.cell 5
  have hne : ¬ gv = b := by omega
  have HD : Hid (DevIs 1 c ((w2.setCell ⟨gv, k, none⟩ (.int .u8 (bits .xor .u8 (y.toNat : Int) (x.toNat : Int)))).setCell ⟨g, (s.waits n).length - 1, none⟩ (.slice (some ⟨gv, 0, none⟩) s.size capv)) b (s.rewait n (turned bs k x)) ∧ Kept (Own b s) w ((w2.setCell ⟨gv, k, none⟩ (.int .u8 (bits .xor .u8 (y.toNat : Int) (x.toNat : Int)))).setCell ⟨g, (s.waits n).length - 1, none⟩ (.slice (some ⟨gv, 0, none⟩) s.size capv))) := ⟨h4, ((k1.mono (fun i _ e => own_b i e)).trans (Kept.of_below (S := fun _ => False) hb3) (fun _ _ x => x.elim)).trans k4 (fun i _ e => by rw [e]; exact hgo)⟩
  clear hx9 hcells hfz hub h3 h4 k4 hrow3 hb3 hrow hsh h2 hgc hrrow hrv hgfz hgo hw hm
  generalize (s.waits n).length = len at *
  go_wp2
  obtain ⟨h4, k4⟩ := HD.out
  refine leaves_cons (f := 28) (args := #[.pointer (some ⟨b, 2, none⟩)]) (by simp) (by simp [go_sem]) ?_
  refine (unlock_dev _ .returning _ b _ h4).mono ?_
  rintro e u' w5 ⟨rfl, rfl, h5, k5, hs5⟩
  exact ⟨_, results_tmp rfl _ _ _, rfl, h5, k4.trans k5 (fun i _ e => own_b i e)⟩
end Go.Proofs.Ytphnajphgiinfaa
