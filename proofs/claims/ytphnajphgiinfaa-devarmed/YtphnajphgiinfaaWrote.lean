/- The change that a Write makes: the inner function of the method Write. -/
import Derived.Test.YtphnajphgiinfaaSettle
import Derived.Deep.RegionHeldLaw
import Derived.Deep.AppendLies
namespace Go.Proofs.Ytphnajphgiinfaa
open Go.RowKit Go.Maps Go.MuLone Go.Sort

theorem info29 : (Try.prog.info? 29).map (fun i => (i.zero, i.size, i.bytes)) = some (some (.slice none 0 0), 1, 24) := by kernel_rfl
theorem info29' : ∃ i, Try.prog.info? 29 = some i ∧ i.zero = some (.slice none 0 0) ∧ i.size = 1 ∧ i.bytes = 24 := by
  have h := info29
  cases hi : Try.prog.info? 29 with
  | none => rw [hi] at h; simp at h
  | some i => rw [hi] at h; simp at h; exact ⟨i, rfl, h⟩

/-- The device with one write more that waits. -/
def St.wrote (s : St) (n : Int) (v : Value) (bs : List UInt8) : St := { s with DW := s.DW.put (key n) (.held v), waits := fun m => if m = n then s.waits n ++ [bs] else s.waits m }

/-- What waits of a block, whether or not there is any. -/
theorem waitRow {lk : Int} {c : Nat} {w : World} {b : Nat} {s : St} (h : DevIs lk c w b s) (n : Int) (hn : (Lit.int .i64 n).wf = true) :
    ∃ rv vs, (∀ W : World, W.ownsMap Try.prog 3 hW s.mW c s.DW → (Instr.lookup 72 (.map (some s.mW)) (.int .i64 n) false).run Try.prog W = .ok rv W) ∧ w.ownsRow 0 29 1 rv vs.length vs ∧ vs.length = (s.waits n).length ∧
      (∀ (i : Nat) u bs, vs[i]? = some u → (s.waits n)[i]? = some bs → refAt w s.X s.size u bs) ∧ (∀ g, rv.ownBlock = some g → valAt s.DW n rv) := by
  by_cases e : s.waits n = []
  · refine ⟨.slice none 0 0, [], fun W hW => lookW_none hW hn (waitAt_none (h.wait n) e), World.ownsRow_nil _ _ _ _, by rw [e]; rfl, fun i u bs hu => by simp at hu, fun g hg => by cases hg⟩
  · obtain ⟨v, hv, vs, h1, h2, h3⟩ := waitAt_some (h.wait n) e
    exact ⟨v, vs, fun W hW => lookW hW hn hv, h1, h2, h3, fun g _ => hv⟩

/-- The new row, put into the map. -/
theorem wrote_is {lk : Int} {c : Nat} {w w' : World} {b : Nat} {s : St} {S : Nat → Prop} {n : Int} {g len cap : Nat} {bs : List UInt8} {vs : List Value} {u : Value} (h : DevIs lk c w b s)
    (k : Kept S w w') (hS : ∀ i, i < w.heap.size → S i → i = s.mW ∨ ∃ v, valAt s.DW n v ∧ v.ownBlock = some i)
    (hown : w'.ownsMap Try.prog 3 hW s.mW (c + 1) (s.DW.put (key n) (.held (.slice (some ⟨g, 0, none⟩) len cap))))
    (hrow : w'.ownsRow 0 29 1 (.slice (some ⟨g, 0, none⟩) len cap) len (vs ++ [u])) (hlen : vs.length = (s.waits n).length) (hvs : ∀ (i : Nat) x bs, vs[i]? = some x → (s.waits n)[i]? = some bs → refAt w s.X s.size x bs)
    (hu : refAt w' s.X s.size u bs) (hg : (∃ v, valAt s.DW n v ∧ v.ownBlock = some g) ∨ w.heap.size ≤ g) :
    DevIs lk (c + 1) w' b (s.wrote n (.slice (some ⟨g, 0, none⟩) len cap) bs) := by
  have hSo : ∀ i, i < w.heap.size → S i → Own b s i := fun i hi hs => (hS i hi hs).elim (fun e => .inr (.inr (.inl e))) (fun ⟨v, h1, h2⟩ => .inr (.inr (.inr ⟨n, v, h1, h2⟩)))
  have nb : ∀ i, isBytes w i → ¬ s.X i → ¬ S i := fun i hi _ hs => by
    obtain ⟨cur, hc⟩ := hi
    exact h.own_not_bytes (hSo i (Array.getElem?_eq_some_iff.1 hc).1 hs) ⟨cur, hc⟩
  obtain ⟨es, cl, hmW, _⟩ := h.mapW
  obtain ⟨es2, cl2, hmL, _⟩ := h.mapL
  have rowBlock : ∀ v i, valAt s.DW n v → v.ownBlock = some i → ∃ cur, w.heap[i]? = some (.cells cur 29 (0, 0)) := fun v i h1 h2 => by
    obtain ⟨hne, hr⟩ := h.row h1
    obtain ⟨g', len, cap, cur, hv', hg', _⟩ := rowAt_isRow hr hne
    rw [hv'] at h2; cases h2
    exact ⟨cur, hg'⟩
  have notS : ∀ i o, w.heap[i]? = some o → (∀ es cl, o ≠ .map es cl ∨ i ≠ s.mW) → (∀ cur, o ≠ .cells cur 29 (0, 0)) → ¬ S i := fun i o hi h1 h2 hs => by
    rcases hS i (Array.getElem?_eq_some_iff.1 hi).1 hs with e | ⟨v, h3, h4⟩
    · rcases h1 es cl with h5 | h5
      · rw [e, hmW] at hi; exact h5 (by cases hi; rfl)
      · exact h5 e
    · obtain ⟨cur, hc⟩ := rowBlock v i h3 h4
      rw [hc] at hi; exact h2 cur (by cases hi; rfl)
  have hput := valAt_put (isMap_of h.mapW) n (.slice (some ⟨g, 0, none⟩) len cap)
  refine { cells := ?_, mapL := ?_, mapW := hown, apart := h.apart, last := ?_, wait := ?_, rows := ?_, size := h.size, blocks := h.blocks, alien := fun g hg => Nat.lt_of_lt_of_le (h.alien g hg) k.size }
  · exact (k.block b (h.own_lt (.inl rfl)) (notS b _ h.cells (fun _ _ => .inl (by simp)) (fun _ => by simp))).trans h.cells
  · exact (map_kept h.mapL k (notS s.mL _ hmL (fun _ _ => .inr h.apart) (fun _ => by simp))).mono (Nat.le_succ c)
  · intro m
    exact last_kept (s := s.wrote n _ bs) (h.last m) k nb
  · intro m
    by_cases e : m = n
    · subst e
      unfold waitAt
      have hw : (s.wrote m (.slice (some ⟨g, 0, none⟩) len cap) bs).waits m = s.waits m ++ [bs] := by simp [St.wrote]
      rw [hw]
      have : ∃ x r, s.waits m ++ [bs] = x :: r := by cases s.waits m <;> simp
      obtain ⟨x, r, hxr⟩ := this
      rw [hxr]
      show ∃ v, valAt (s.DW.put (key m) (.held (.slice (some ⟨g, 0, none⟩) len cap))) m v ∧ rowAt w' s.X s.size v (x :: r)
      rw [← hxr]
      have hl : len = (vs ++ [u]).length := by have := hrow.1; omega
      refine ⟨_, hput, vs ++ [u], ?_, by simp [hlen], fun i y bs' hy hb => ?_⟩
      · rw [← hl]; exact hrow
      · by_cases hi : i < vs.length
        · rw [List.getElem?_append_left hi] at hy
          rw [List.getElem?_append_left (by omega)] at hb
          exact ref_kept (hvs i y bs' hy hb) k nb
        · have hi2 : i = vs.length := by
            have := (List.getElem?_eq_some_iff.1 hy).1
            simp at this; omega
          subst hi2
          rw [List.getElem?_append_right (Nat.le_refl _)] at hy
          rw [List.getElem?_append_right (by omega), hlen] at hb
          simp at hy hb
          subst hy; subst hb
          exact hu
    · have hm := h.wait m
      have := wait_kept hm k nb (fun v i hv hi hs => by
        rcases hS i (by
          obtain ⟨hne, hr⟩ := h.row hv
          obtain ⟨g', len, cap, cur, hv', hg', _⟩ := rowAt_isRow hr hne
          rw [hv'] at hi; cases hi
          exact (Array.getElem?_eq_some_iff.1 hg').1) hs with e1 | ⟨v2, h3, h4⟩
        · obtain ⟨hne, hr⟩ := h.row hv
          obtain ⟨g', len, cap, cur, hv', hg', _⟩ := rowAt_isRow hr hne
          rw [hv'] at hi; cases hi
          rw [show g' = s.mW from e1, hmW] at hg'
          cases hg'
        · exact h.rows m n v v2 hv h3 e (hi.trans h4.symm))
      unfold waitAt at this ⊢
      have hw : (s.wrote n (.slice (some ⟨g, 0, none⟩) len cap) bs).waits m = s.waits m := by simp [St.wrote, e]
      rw [hw]
      simp only [St.wrote, valAt_put_other e, has_put_other (key_ne e)]
      exact this
  · intro m m' v v' hv hv' hne
    have hnew : ∀ x y, valAt s.DW x y → x ≠ n → y.ownBlock ≠ some g := fun x y hx hxn hy => by
      rcases hg with ⟨v2, h3, h4⟩ | hg
      · exact h.rows x n y v2 hx h3 hxn (hy.trans h4.symm)
      · have := h.own_lt (.inr (.inr (.inr ⟨x, y, hx, hy⟩)))
        omega
    simp only [St.wrote] at hv hv'
    by_cases e : m = n
    · subst e
      rw [valAt_put_other (Ne.symm hne)] at hv'
      cases valAt_fun hv hput
      exact fun e2 => hnew m' v' hv' (Ne.symm hne) e2.symm
    · rw [valAt_put_other e] at hv
      by_cases e' : m' = n
      · subst e'
        cases valAt_fun hv' hput
        exact hnew m v hv e
      · rw [valAt_put_other e'] at hv'
        exact h.rows m m' v v' hv hv' hne

theorem kept_cell_some {S : Nat → Prop} {w w' : World} (k : Kept S w w') {g o : Nat} {v : Value} (h : w.cell? ⟨g, o, none⟩ = some v) (hs : ¬ S g) : w'.cell? ⟨g, o, none⟩ = some v := by
  have hg : g < w.heap.size := by
    unfold World.cell? at h
    cases e : w.heap[g]? with
    | none => simp [e] at h
    | some o => exact (Array.getElem?_eq_some_iff.1 e).1
  rw [kept_cell k hg hs]; exact h

theorem news1 (w1 : World) (v1 : Value) : ∀ (j : Nat) u, [v1][j]? = some u → (w1.alloc (.cells #[v1] 29)).cell? ((⟨w1.heap.size, 0, none⟩ : Addr).add j) = some u := by
  intro j u hj
  match j, hj with
  | 0, hj => simp at hj; subst hj; simp [Addr.add]
theorem one1 {w : World} {base n : Nat} {v1 : Value} {xs : List Value} (h : w.ownsRow base 5 1 v1 n xs) : ∀ u ∈ [v1], u.oneCell' = true := by
  intro u hu
  simp at hu
  subst hu
  rcases h.2 with ⟨h', _⟩ | ⟨g, cap, cur, hv, _⟩
  · rw [h']; rfl
  · rw [hv]; rfl

set_option maxHeartbeats 1000000 in
set_option maxRecDepth 100000 in
theorem write1_any (lk : Int) (c : Nat) (w : World) (b : Nat) (s : St) (h : DevIs lk c w b s) (hc : c ≤ 1099511627776) (n : Int) (hn : (Lit.int .i64 n).wf = true) (hml : (s.waits n).length ≤ 1099511627776) (bv : Value) (bs : List UInt8) (hb : bytesAt w s.size bv bs)
    (q0 q1 q2 : Nat) (e0 : w.cell? ⟨q0, 0, none⟩ = some (.pointer (some ⟨b, 0, none⟩))) (e1 : w.cell? ⟨q1, 0, none⟩ = some (.int .i64 n)) (e2 : w.cell? ⟨q2, 0, none⟩ = some bv) (o0 : ¬ Own b s q0) (o1 : ¬ Own b s q1) (o2 : ¬ Own b s q2) :
    Calls Try.prog 31 #[.pointer (some ⟨q0, 0, none⟩), .pointer (some ⟨q1, 0, none⟩), .pointer (some ⟨q2, 0, none⟩)] w fun e w' => ∃ v, e = .returned (.tuple #[]) ∧ DevIs lk (c + 1) w' b (s.wrote n v bs) ∧ Kept (Own b s) w w' ∧
      (∀ k, Own b (s.wrote n v bs) k → Own b s k ∨ w.heap.size ≤ k) := by
  obtain ⟨i0, hi, hz0, hz1, hz2⟩ := info29'
  obtain ⟨rv, vs, hlook, hrow, hlen, hvs, hrvo⟩ := waitRow h n hn
  obtain ⟨gb, capb, rfl, hgb, _, _⟩ := bytesAt_form hb h.size.1
  have c5 : w.cell? ⟨b, 5, none⟩ = some (.map (some s.mW)) := h.cell 5
  have hl0 := hlook w.drew h.mapW
  have HL : Hid (∀ W : World, W.ownsMap Try.prog 3 hW s.mW c s.DW → (Instr.lookup 72 (.map (some s.mW)) (.int .i64 n) false).run Try.prog W = .ok rv W) := hlook
  clear hlook
  have hs1 := h.size.1
  have hs2 := h.size.2
  have hro : ∀ g, rv.ownBlock = some g → Own b s g := fun g hg => .inr (.inr (.inr ⟨n, rv, hrvo g hg, hg⟩))
  have hrk : ∀ g, rv.ownBlock = some g → ∃ cur, w.heap[g]? = some (.cells cur 29 (0, 0)) := fun g hg => by
    obtain ⟨hne, hr⟩ := h.row (hrvo g hg)
    obtain ⟨g', len, cap, cur, hv', hg', _⟩ := rowAt_isRow hr hne
    rw [hv'] at hg; cases hg
    exact ⟨cur, hg'⟩
  have hrb : ¬ rv.ownBlock = some b := fun e => by obtain ⟨cur, hc'⟩ := hrk b e; rw [h.cells] at hc'; simp at hc'
  have hrm : ¬ rv.ownBlock = some s.mW := fun e => by obtain ⟨cur, hc'⟩ := hrk _ e; obtain ⟨es, cl, hm, _⟩ := h.mapW; rw [hm] at hc'; cases hc'
  have hbm : ¬ b = s.mW := fun e => by obtain ⟨es, cl, hm, _⟩ := h.mapW; rw [← e, h.cells] at hm; cases hm
  have HP : Hid (∀ (w1 w3 w4 : World) (v1 : Value) (g cap : Nat), Kept (fun _ => False) w w1 → w1.ownsRow w.heap.size 5 1 v1 s.size (bs.map encB) →
      w3.ownsRow 0 29 1 (.slice (some ⟨g, 0, none⟩) (vs.length + 1) cap) (vs.length + 1) (vs ++ [v1]) → (w1.alloc (.cells #[v1] 29)).grownBy w3 rv.ownBlock → (rv.ownBlock = some g ∨ g = w1.heap.size + 1) →
      w4.ownsMap Try.prog 3 hW s.mW (c + 1) (s.DW.put (key n) (.held (.slice (some ⟨g, 0, none⟩) (vs.length + 1) cap))) → w3.grownBy w4 (some s.mW) →
      ∃ v, DevIs lk (c + 1) w4 b (s.wrote n v bs) ∧ Kept (Own b s) w w4 ∧ (∀ k, Own b (s.wrote n v bs) k → Own b s k ∨ w.heap.size ≤ k)) := by
    intro w1 w3 w4 v1 g cap k1 hr1 hown3 hgr3 hg3 hm4 hgr4
    have k3 : Kept (fun k => rv.ownBlock = some k) w w3 := ((k1.mono (fun _ _ x => x.elim)).trans (Kept.of_below (S := fun _ => False) ((Below.refl _ _).alloc (Nat.le_refl _) _)) (fun _ _ x => x.elim)).trans (Kept.of_grown (S := fun k => rv.ownBlock = some k) hgr3 (fun k e => e)) (fun _ _ x => x)
    have k4 : Kept (fun k => rv.ownBlock = some k ∨ k = s.mW) w w4 := (k3.mono (fun _ _ x => .inl x)).trans (Kept.of_grown (S := fun k => k = s.mW) hgr4 (fun k e => by cases e; rfl)) (fun _ _ x => .inr x)
    have hsz1 := k1.size
    have k34 : Kept (fun k => k = s.mW) w3 w4 := Kept.of_grown hgr4 (fun k e => by cases e; rfl)
    have hmlt := h.mapW.lt
    -- the new row, the new bytes
    have hrow4 : w4.ownsRow 0 29 1 (.slice (some ⟨g, 0, none⟩) (vs.length + 1) cap) (vs.length + 1) (vs ++ [v1]) := row_kept hown3 k34 (fun i hi e => by
      cases hi
      rcases hg3 with hg3 | hg3
      · exact hrm (by rw [hg3]; exact congrArg some e)
      · have e' : g = s.mW := e
        omega)
    have hu4 : refAt w4 s.X s.size v1 bs := by
      have h0 : w1.ownsRow 0 5 1 v1 s.size (bs.map encB) := row_base hr1 (Nat.zero_le _)
      have hfr : ∀ i, v1.ownBlock = some i → w.heap.size ≤ i := fun i hi => row_fresh hr1 hi
      have hlt1 : ∀ i, v1.ownBlock = some i → i < w1.heap.size := fun i hi => by
        obtain ⟨cur, hc'⟩ := bytesAt_block h0 i hi
        exact (Array.getElem?_eq_some_iff.1 hc').1
      have ha : (w1.alloc (.cells #[v1] 29)).ownsRow 0 5 1 v1 s.size (bs.map encB) := h0.alloc _
      have hb3 : w3.ownsRow 0 5 1 v1 s.size (bs.map encB) := row_kept ha (Kept.of_grown (S := fun k => rv.ownBlock = some k) hgr3 (fun k e => e)) (fun i hi e => by
        have := h.own_lt (hro i e)
        have := hfr i hi
        omega)
      exact ⟨row_kept hb3 k34 (fun i hi e => by have := hfr i hi; omega), fun i hi hx => by have := h.alien i hx; have := hfr i hi; omega⟩
    have hd := wrote_is (bs := bs) (len := vs.length + 1) h k4 (fun i _ hs => hs.elim (fun e => .inr ⟨rv, hrvo i e, e⟩) (fun e => .inl e)) hm4 hrow4 hlen hvs hu4 (hg3.elim (fun e => .inl ⟨rv, hrvo g e, e⟩) (fun e => .inr (by omega)))
    refine ⟨_, hd, k4.mono (fun i _ hs => hs.elim (hro i) (fun e => .inr (.inr (.inl e)))), ?_⟩
    intro k hk
    rcases hk with e | e | e | ⟨m, v, hv, hvk⟩
    · exact .inl (.inl e)
    · exact .inl (.inr (.inl e))
    · exact .inl (.inr (.inr (.inl e)))
    · by_cases hm : m = n
      · subst hm
        cases valAt_fun hv (valAt_put (isMap_of h.mapW) m _)
        cases hvk
        rcases hg3 with hg3 | hg3
        · exact .inl (hro g hg3)
        · exact .inr (by show w.heap.size ≤ g; omega)
      · have hv' : valAt s.DW m v := (valAt_put_other hm _ _).1 hv
        exact .inl (.inr (.inr (.inr ⟨m, v, hv', hvk⟩)))
  have hvl : vs.length ≤ 1099511627776 := by omega
  clear hlen hvs hrvo hml
  go_enter Try.func31, Try.ntmps31
  go_region_held_law (fun W => W.cell? ⟨q0, 0, none⟩ = some (.pointer (some ⟨b, 0, none⟩)) ∧ W.cell? ⟨q1, 0, none⟩ = some (.int .i64 n) ∧ W.cell? ⟨q2, 0, none⟩ = some (.slice (some ⟨gb, 0, none⟩) s.size capb) ∧ W.cell? ⟨b, 5, none⟩ = some (.map (some s.mW))) (go_keep)
    (first
      | (go_at_call 32; refine (clone_any _ _ bs _ (row_kept hb (Kept.of_below (S := fun _ => False) (below_drew _ w)) (fun _ _ => id)) hs1 hs2).mono ?_; rintro e w1 ⟨v1, rfl, hr1, hn1, hb1⟩
         obtain ⟨g1, cap1, rfl, _⟩ := bytesAt_form (row_base hr1 (Nat.zero_le _)) hs1
         have k1 : Kept (fun _ => False) w w1 := (Kept.of_below (below_drew _ w)).trans (Kept.of_below (S := fun _ => False) hb1) (fun _ _ x => x)
         have x0 := kept_cell_some k1 e0 id
         have x1 := kept_cell_some k1 e1 id
         have x2 := kept_cell_some k1 e2 id
         have x5 := kept_cell_some k1 c5 id
         have hl1 := HL.out w1 (map_kept h.mapW k1 id)
         have hl2 := fun o => HL.out (w1.alloc o) ((map_kept h.mapW k1 id).alloc o))
      | (refine step_append_lies _ rfl _ _ 80 rfl 0 29 i0 (.slice none 0 0) 1 24 Try.underlying80 hi hz0 hz1 hz2 rfl (by decide) rv vs.length vs rfl ((row_kept hrow k1 (fun _ _ => id)).alloc _) ⟨w1.heap.size, 0, none⟩ 1 1 [.slice (some ⟨g1, 0, none⟩) s.size cap1] rfl rfl (news1 w1 _) (one1 hr1) (by decide) (by unfold maxLen; omega) (by omega) (Nat.zero_le _) (w1.heap.size + 1) (by simp) ?_
         intro g cap w3 hown3 hgr3 hg3 hlt3
         have k3 : Kept (fun k => rv.ownBlock = some k) w w3 := ((k1.mono (fun _ _ x => x.elim)).trans (Kept.of_below (S := fun _ => False) ((Below.refl _ _).alloc (Nat.le_refl _) _)) (fun _ _ x => x.elim)).trans (Kept.of_grown (S := fun k => rv.ownBlock = some k) hgr3 (fun k e => e)) (fun _ _ x => x)
         have y0 := kept_cell_some k3 e0 (fun e => o0 (hro _ e))
         have y1 := kept_cell_some k3 e1 (fun e => o1 (hro _ e))
         have y2 := kept_cell_some k3 e2 (fun e => o2 (hro _ e))
         have y5 := kept_cell_some k3 c5 hrb
         obtain ⟨w4, hrun4, hm4, hgr4⟩ := (map_kept h.mapW k3 hrm).update law3 Try.underlying72 (by unfold maxLen; omega) (key_of hn) (val := .slice (some ⟨g, 0, none⟩) (vs.length + 1) cap) (d := .held (.slice (some ⟨g, 0, none⟩) (vs.length + 1) cap)) (ps := []) rfl
         have k4 : Kept (fun k => rv.ownBlock = some k ∨ k = s.mW) w w4 := (k3.mono (fun _ _ x => .inl x)).trans (Kept.of_grown (S := fun k => k = s.mW) hgr4 (fun k e => by cases e; rfl)) (fun _ _ x => .inr x)
         have z0 := kept_cell_some k4 e0 (fun e => e.elim (fun e => o0 (hro _ e)) (fun e => o0 (.inr (.inr (.inl e)))))
         have z1 := kept_cell_some k4 e1 (fun e => e.elim (fun e => o1 (hro _ e)) (fun e => o1 (.inr (.inr (.inl e)))))
         have z2 := kept_cell_some k4 e2 (fun e => e.elim (fun e => o2 (hro _ e)) (fun e => o2 (.inr (.inr (.inl e)))))
         have z5 := kept_cell_some k4 c5 (fun e => e.elim hrb hbm)))
  all_goals
    go_end0
    obtain ⟨v, hfin⟩ := HP.out w1 w3 w4 _ g cap k1 hr1 hown3 hgr3 hg3 hm4 hgr4
    exact ⟨v, rfl, hfin⟩
end Go.Proofs.Ytphnajphgiinfaa
