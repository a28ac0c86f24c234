/- The method Copy: another device, which is as this one is; they share bytes that nobody writes. -/
import Derived.Test.YtphnajphgiinfaaFlipOk
import Derived.Test.YtphnajphgiinfaaRun
import Derived.Deep.RegionHeld3
namespace Go.Proofs.Ytphnajphgiinfaa
open Go.RowKit Go.Maps Go.MuLone Go.Sort Go.Shelf

theorem makeMap72 (n : Int) (w : World) : (Instr.makeMap 72 (some (.int .i64 n))).run Try.prog w = .ok (.map (some w.heap.size)) (w.alloc (.map #[] 0)) := by
  simp [Instr.makeMap, run_underlying Try.underlying72, asInt, asIntOf]

/-- slices.Clone of a row of what waits. -/
theorem cloneRow_any (X : Nat → Prop) (n : Nat) (hn : 1 ≤ n) (rv : Value) (l : List (List UInt8)) (w : World) (h : rowAt w X n rv l) (hl : l ≠ []) (hlen : l.length ≤ 1099511627776) :
    Calls Try.prog 37 #[rv] w fun e w' => ∃ a cap, e = .returned (.slice a l.length cap) ∧ rowAt w' X n (.slice a l.length cap) l ∧ (∀ g, (Value.slice a l.length cap).ownBlock = some g → w.heap.size ≤ g) ∧ Below w.heap.size w w' := by
  obtain ⟨i0, hi, hz0, hz1, hz2⟩ := info29'
  obtain ⟨vs, h1, h2, h3⟩ := h
  have hpos : 1 ≤ l.length := List.length_pos_iff.2 hl
  rcases h1.2 with ⟨_, h'⟩ | ⟨g, cap, cur, hv, _, hg, hnc, hcm, hcs, ht⟩
  · omega
  · have hone : ∀ u ∈ vs, u.oneCell' = true := by
      intro u hu
      obtain ⟨i, hi, rfl⟩ := List.getElem_of_mem hu
      have hil : i < l.length := by omega
      have hr := (h3 i vs[i] l[i] (List.getElem?_eq_getElem hi) (List.getElem?_eq_getElem hil)).1
      obtain ⟨g', c', e, _⟩ := bytesAt_form hr hn
      rw [e]; rfl
    have hcell : ∀ (j : Nat) u, vs[j]? = some u → w.cell? ⟨g, 0 + j, none⟩ = some u := by
      intro j u hj
      have : (cur.toList.take (vs.length * 1))[j]? = some u := by rw [ht]; exact hj
      rw [List.getElem?_take] at this
      split at this
      · simpa [World.cell?, hg] using this
      · cases this
    subst hv
    refine (AnyE.slices_Clone Try.cloneR i0 (.slice none 0 0) 1 24 hi hz0 hz1 hz2 rfl (by decide) Try.sizeOf29 g 0 vs.length cap vs w (by simp) (by unfold maxLen; omega) (by omega) hcell hone).mono ?_
    rintro e w' ⟨v', rfl, hrow, _, hb⟩
    have hrow' : w'.ownsRow w.heap.size 29 1 v' vs.length vs := hrow
    obtain ⟨a, cap', rfl⟩ : ∃ a cap', v' = .slice a vs.length cap' := by
      rcases hrow'.2 with ⟨e1, e2⟩ | ⟨g2, c2, _, e1, _⟩
      · exact ⟨none, 0, by rw [e2]; exact e1⟩
      · exact ⟨_, c2, e1⟩
    have kk : Kept (fun _ => False) w w' := Kept.of_below hb
    refine ⟨a, cap', by rw [h2], ⟨vs, by rw [← h2]; exact row_base hrow' (Nat.zero_le _), h2, fun i u bs a1 a2 => ref_kept (h3 i u bs a1 a2) kk (fun _ _ _ => id)⟩, fun g' hg' => row_fresh hrow' (by rw [h2]; exact hg'), hb⟩

/-- While the map of what waits is copied. -/
structure CopyTo (c j : Nat) (w1 w : World) (b mN r : Nat) (s : St) (left : Lit → Bool) (cnt : Nat) (Dn : DataW Value) : Prop where
  dev : DevIs 1 c w b s
  rg : w.ranges Try.prog 3 hW s.mW r c s.DW left cnt
  map : w.ownsMap Try.prog 3 hW mN j Dn
  cnt : j + cnt ≤ c
  gone : ∀ m, (left (key m) = true ∨ s.waits m = []) → Maps.has Dn (key m) = false
  done : ∀ m, left (key m) = false → s.waits m ≠ [] → ∃ v, valAt Dn m v ∧ rowAt w s.X s.size v (s.waits m)
  rows : ∀ n n' v v', valAt Dn n v → valAt Dn n' v' → n ≠ n' → v.ownBlock ≠ v'.ownBlock
  fresh : ∀ n v g, valAt Dn n v → v.ownBlock = some g → w1.heap.size ≤ g ∧ g < w.heap.size
  old : Below w1.heap.size w1 w
  iter : w1.heap.size ≤ r
  new : w1.heap.size ≤ mN
  apart : mN ≠ r
  own : ∀ k, Own b s k → k < w1.heap.size

theorem CopyTo.step {c j : Nat} {w1 w w2 w3 w4 : World} {b mN r : Nat} {s : St} {left : Lit → Bool} {cnt cnt' : Nat} {Dn : DataW Value} (h : CopyTo c j w1 w b mN r s left cnt Dn) {x : Int} {a : Option Addr} {len cap : Nat}
    (hk2 : Kept (fun k => k = r) w w2) (hrg : w2.ranges Try.prog 3 hW s.mW r c s.DW (fun z => left z && !z.sameKey (key x)) cnt') (hlt : cnt' < cnt)
    (hb3 : Below w2.heap.size w2 w3) (hrow : rowAt w3 s.X s.size (.slice a len cap) (s.waits x)) (hne : s.waits x ≠ []) (hfr : ∀ g, (Value.slice a len cap).ownBlock = some g → w2.heap.size ≤ g)
    (hm4 : w4.ownsMap Try.prog 3 hW mN (j + 1) (Dn.put (key x) (.held (.slice a len cap)))) (hg4 : w3.grownBy w4 (some mN)) :
    CopyTo c (j + 1) w1 w4 b mN r s (fun z => left z && !z.sameKey (key x)) cnt' (Dn.put (key x) (.held (.slice a len cap))) := by
  have k4 : Kept (fun k => k = mN) w3 w4 := Kept.of_grown hg4 (fun k e => by cases e; rfl)
  have k3 : Kept (fun _ => False) w2 w3 := Kept.of_below hb3
  have hsz2 := hk2.size
  have hsz3 := hb3.size
  have hsz4 := k4.size
  have hold := h.old.size
  obtain ⟨esr, clr, sir, ser, c0r, _, _, _, _, hri, _⟩ := h.rg
  obtain ⟨esn, cln, hmN, _⟩ := h.map
  have hmNlt := h.map.lt
  have hmN2 : w2.heap[mN]? = some (.map esn cln) := (hk2.block mN hmNlt h.apart).trans hmN
  have hmN3 : w3.heap[mN]? = some (.map esn cln) := (hb3.block mN (by omega)).trans hmN2
  have nbr : ∀ g, isBytes w g → ¬ g = r := fun g hg e => by obtain ⟨cur, hc⟩ := hg; rw [e, hri] at hc; cases hc
  have nbn : ∀ g, isBytes w3 g → ¬ g = mN := fun g hg e => by obtain ⟨cur, hc⟩ := hg; rw [e, hmN3] at hc; cases hc
  have hiter := h.iter
  have hnew := h.new
  have hd2 : DevIs 1 c w2 b s := h.dev.kept hk2 (fun i hi e => by have := h.own i hi; omega) (fun g hg _ => nbr g hg)
  have hd3 := hd2.below hb3
  have hd4 : DevIs 1 c w4 b s := hd3.kept k4 (fun i hi e => by have := h.own i hi; omega) (fun g hg _ => nbn g hg)
  have hisM := isMap_of h.map
  have hput := valAt_put hisM x (.slice a len cap)
  have hkx : (key x).sameKey (key x) = true := WideAt.sameKey_self (a := key x) (by trivial)
  have rowTo4 : ∀ v l, (∀ g, v.ownBlock = some g → ¬ g = mN) → rowAt w3 s.X s.size v l → rowAt w4 s.X s.size v l := fun v l hv hr => rowAt_kept hr k4 (fun g hg _ => nbn g hg) hv
  have rowNot : ∀ v l, l ≠ [] → rowAt w3 s.X s.size v l → ∀ g, v.ownBlock = some g → ¬ g = mN := fun v l hl hr g hg e => by
    obtain ⟨g', l', c', cur, hv', hg', _⟩ := rowAt_isRow hr hl
    rw [hv'] at hg; cases hg
    rw [show g' = mN from e, hmN3] at hg'; cases hg'
  refine { dev := hd4, rg := ?_, map := hm4, cnt := by have := h.cnt; omega, gone := ?_, done := ?_, rows := ?_, fresh := ?_, old := ?_, iter := h.iter, new := h.new, apart := h.apart, own := h.own }
  · have hmWlt : s.mW < w1.heap.size := h.own _ (.inr (.inr (.inl rfl)))
    have hrlt := hrg.lt
    exact ranges_kept (ranges_kept hrg k3 id id) k4 (fun e => by omega) (fun e => h.apart e.symm)
  · intro m hm
    by_cases e : m = x
    · subst e
      rcases hm with hm | hm
      · rw [hkx] at hm; simp at hm
      · exact absurd hm hne
    · rw [has_put_other (key_ne e)]
      have hsk : (key m).sameKey (key x) = false := sameKey_ne (key_ne e)
      exact h.gone m (hm.imp (fun y => by rw [hsk] at y; simpa using y) id)
  · intro m hm1 hm2
    by_cases e : m = x
    · subst e
      exact ⟨_, hput, rowTo4 _ _ (rowNot _ _ hne hrow) hrow⟩
    · have hsk : (key m).sameKey (key x) = false := sameKey_ne (key_ne e)
      rw [hsk] at hm1
      obtain ⟨v, h1, h2⟩ := h.done m (by simpa using hm1) hm2
      have hvr : ∀ g, v.ownBlock = some g → ¬ g = r := fun g hg e2 => by
        obtain ⟨g', l', c', cur, hv', hg', _⟩ := rowAt_isRow h2 hm2
        rw [hv'] at hg; cases hg
        rw [show g' = r from e2, hri] at hg'; cases hg'
      have h3 : rowAt w3 s.X s.size v (s.waits m) := rowAt_kept (rowAt_kept h2 hk2 (fun g hg _ => nbr g hg) hvr) k3 (fun _ _ _ => id) (fun _ _ => id)
      exact ⟨v, (valAt_put_other e _ _).2 h1, rowTo4 _ _ (rowNot _ _ hm2 h3) h3⟩
  · intro m m' u u' hu hu' hne'
    have hnw : ∀ y v, valAt Dn y v → v.ownBlock ≠ (Value.slice a len cap).ownBlock := fun y v hv e => by
      cases hvb : v.ownBlock with
      | none =>
        -- a row that waits is none that is nil
        rw [hvb] at e
        obtain ⟨g', l', c', cur, hv', hg', _⟩ := rowAt_isRow hrow hne
        rw [hv'] at e; cases e
      | some g =>
        rw [hvb] at e
        have h1 := h.fresh y v g hv hvb
        have h2 := hfr g e.symm
        omega
    by_cases e : m = x
    · subst e
      rw [valAt_put_other (Ne.symm hne')] at hu'
      cases valAt_fun hu hput
      exact fun e2 => hnw m' u' hu' e2.symm
    · rw [valAt_put_other e] at hu
      by_cases e' : m' = x
      · subst e'
        cases valAt_fun hu' hput
        exact hnw m u hu
      · rw [valAt_put_other e'] at hu'
        exact h.rows m m' u u' hu hu' hne'
  · intro m u g hu hg
    by_cases e : m = x
    · subst e
      cases valAt_fun hu hput
      obtain ⟨g', l', c', cur, hv', hg', _⟩ := rowAt_isRow hrow hne
      have hgg : g = g' := by rw [hv'] at hg; simpa [Value.ownBlock] using hg.symm
      have := (Array.getElem?_eq_some_iff.1 hg').1
      have := hfr g hg
      omega
    · rw [valAt_put_other e] at hu
      have := h.fresh m u g hu hg
      omega
  · exact ((h.old.trans (hk2.below (fun i e => by omega) hold)).trans (hb3.mono (by omega))).trans (k4.below (fun i e => by omega) (by omega))

/-- The copy. -/
def St.copyOf (s : St) (mL mW : Nat) (D : DataW Value) : St := { s with mL := mL, mW := mW, DW := D }

theorem copy_is {c j : Nat} {w1 w w2 : World} {b mN r : Nat} {s : St} {Dn : DataW Value} {cnt : Nat} (h : CopyTo c j w1 w b mN r s (fun _ => false) cnt Dn) (hb : Below w.heap.size w w2) (hm : w2.ownsMap Try.prog 3 hL w.heap.size c s.DL) :
    DevIs 0 c (w2.alloc (.cells (hdr 0 (s.copyOf w.heap.size mN Dn)) 77 (0, 0))) w2.heap.size (s.copyOf w.heap.size mN Dn) ∧ DevIs 1 c (w2.alloc (.cells (hdr 0 (s.copyOf w.heap.size mN Dn)) 77 (0, 0))) b s ∧
      (∀ k, Own w2.heap.size (s.copyOf w.heap.size mN Dn) k → w1.heap.size ≤ k) ∧ Below w1.heap.size w1 (w2.alloc (.cells (hdr 0 (s.copyOf w.heap.size mN Dn)) 77 (0, 0))) := by
  have ha : Below w2.heap.size w2 (w2.alloc (.cells (hdr 0 (s.copyOf w.heap.size mN Dn)) 77 (0, 0))) := (Below.refl _ _).alloc (Nat.le_refl _) _
  have hsz := hb.size
  have hold := h.old.size
  have hcnt := h.cnt
  have hbw : Below w.heap.size w (w2.alloc (.cells (hdr 0 (s.copyOf w.heap.size mN Dn)) 77 (0, 0))) := hb.trans (ha.mono hsz)
  have kw : Kept (fun _ => False) w (w2.alloc (.cells (hdr 0 (s.copyOf w.heap.size mN Dn)) 77 (0, 0))) := Kept.of_below hbw
  have hdev := h.dev.below hbw
  refine ⟨?_, hdev, ?_, h.old.trans (hbw.mono hold)⟩
  · refine { cells := (MapKept.heap_alloc w2 _).1, mapL := hm.alloc _, mapW := (map_kept h.map kw id).mono (by omega), apart := fun e => by have := h.map.lt; have e' : w.heap.size = mN := e; omega, last := ?_, wait := ?_, rows := h.rows, size := h.dev.size, blocks := h.dev.blocks, alien := hdev.alien }
    · intro n
      exact hdev.last n
    · intro n
      by_cases e : s.waits n = []
      · unfold waitAt
        simp only [St.copyOf, e]
        exact h.gone n (.inr e)
      · obtain ⟨v, h1, h2⟩ := h.done n rfl e
        have h3 := rowAt_kept h2 kw (fun _ _ _ => id) (fun _ _ => id)
        unfold waitAt
        simp only [St.copyOf]
        cases e2 : s.waits n with
        | nil => exact absurd e2 e
        | cons x r => rw [e2] at h3; exact ⟨v, h1, h3⟩
  · intro k hk
    rcases hk with e | e | e | ⟨n, v, hv, hg⟩
    · omega
    · rw [e]; exact hold
    · rw [e]; exact h.new
    · exact (h.fresh n v k hv hg).1

set_option maxHeartbeats 2000000 in
set_option maxRecDepth 100000 in
theorem copy_any (c : Nat) (w : World) (b : Nat) (s : St) (h : DevIs 0 c w b s) (hc : c ≤ 549755813888) (hml : ∀ n, (s.waits n).length ≤ 1099511627776) :
    Calls Try.prog 19 #[.pointer (some ⟨b, 0, none⟩)] w fun e w' => ∃ b2 mL mW D, e = .returned (.pointer (some ⟨b2, 0, none⟩)) ∧ DevIs 0 c w' b s ∧ DevIs 0 c w' b2 (s.copyOf mL mW D) ∧ (∀ k, Own b2 (s.copyOf mL mW D) k → w.heap.size ≤ k) ∧ Kept (fun k => k = b) w w' := by
  have hmm := @makeMap72
  obtain ⟨kf1, kf2, kf3, kf4, kf5⟩ := keys_facts h.mapW
  go_enter_defers Try.func19, Try.ntmps19
  go_wp2_with fail
  refine (lock_dev c _ b s h).mono ?_
  rintro e w1 ⟨rfl, h1, k1, hs1⟩
  have c5 : w1.cell? ⟨b, 5, none⟩ = some (.map (some s.mW)) := h1.cell 5
  have hbl := h1.own_lt (.inl rfl)
  have hmW := h1.mapW
  have HS1 : Hid (w1.heap.size = w.heap.size) := hs1
  clear hs1
  go_wp2_with (first
    | (at_len; refine wpList_len_own _ rfl _ 72 rfl 3 80 Try.underlying72 hW s.mW c s.DW rfl hmW ?_)
    | (at_range; refine wpList_range_own _ rfl _ 72 rfl 3 80 law3 Try.underlying72 hW s.mW c s.DW rfl (hmW.alloc _) ?_; intro w0 hrg0 hg0 hs0))
  go_frame
  have e1 : (w1.alloc (.map #[] 0)).heap.size = w1.heap.size + 1 := by simp
  rw [e1] at hrg0 hs0 ⊢
  have hb01 : Below w1.heap.size w1 w0 := ((Below.refl _ _).alloc (Nat.le_refl _) _).trans (below_grown hg0 (by simp))
  have C0 : CopyTo c 0 w1 w0 b w1.heap.size (w1.heap.size + 1) s (Maps.has s.DW) (Maps.size s.DW) (.map []) :=
    { dev := h1.below hb01, rg := hrg0, map := (World.ownsMap_made w1 _ _ _).kept hg0 (by simp), cnt := by omega, gone := fun _ _ => rfl,
      done := fun m hm1 hm2 => (by obtain ⟨v, hv, _⟩ := waitAt_some (h1.wait m) hm2; rw [valAt_has hv] at hm1; cases hm1),
      rows := fun n n' v v' hv => (by have := valAt_has hv; simp [Maps.has] at this), fresh := fun n v g hv => (by have := valAt_has hv; simp [Maps.has] at this),
      old := hb01, iter := Nat.le_succ _, new := Nat.le_refl _, apart := by omega, own := fun k hk => h1.own_lt hk }
  clear hrg0 hg0 hs0 hb01 kf1 kf2 kf5 hmW e1
  go_loopw [4] (fun _ wr => ∃ (left : Lit → Bool) (cnt j : Nat) (Dn : DataW Value), CopyTo c j w1 wr b w1.heap.size (w1.heap.size + 1) s left cnt Dn) (fun _ wr => wr.rangeLeft s.mW (w1.heap.size + 1))
  case atStart => exact ⟨_, _, _, _, C0⟩
  case round =>
    clear C0
    obtain ⟨left, cnt, j, Dn, C⟩ := hrel
    have hrg := C.rg
    go_wp2_with (at_next; refine wpList_next_ranges _ rfl _ rfl 3 law3 hW mkK mkV invK invV s.mW (w1.heap.size + 1) c s.DW left cnt rfl hrg ?_ ?_)
    · intro hc0 hl0
      have hl : left = fun _ => false := funext hl0
      subst hl
      clear hrg
      have d0 : wr.cell? ⟨b, 0, none⟩ = some (.int .i64 s.size) := C.dev.cell 0
      have d1 : wr.cell? ⟨b, 1, none⟩ = some (.int .i64 s.blocks) := C.dev.cell 1
      have d4 : wr.cell? ⟨b, 4, none⟩ = some (.map (some s.mL)) := C.dev.cell 4
      have d6 : wr.cell? ⟨b, 6, none⟩ = some (.bool s.off) := C.dev.cell 6
      have d7 : wr.cell? ⟨b, 7, none⟩ = some (.int .i64 s.ch) := C.dev.cell 7
      have d8 : wr.cell? ⟨b, 8, none⟩ = some (.int .i64 s.how) := C.dev.cell 8
      have d9 : wr.cell? ⟨b, 9, none⟩ = some (.bool s.done) := C.dev.cell 9
      have d10 : wr.cell? ⟨b, 10, none⟩ = some (.int .u64 s.rd) := C.dev.cell 10
      have d11 : wr.cell? ⟨b, 11, none⟩ = some (.int .u64 s.wt) := C.dev.cell 11
      have hbr : b < wr.heap.size := C.dev.own_lt (.inl rfl)
      have HC : Hid (CopyTo c j w1 wr b w1.heap.size (w1.heap.size + 1) s (fun _ => false) cnt Dn) := C
      clear C h1 c5
      go_wp2_with fail
      go_region_held3 (fun W => W.cell? ⟨b, 0, none⟩ = some (.int .i64 s.size) ∧ W.cell? ⟨b, 1, none⟩ = some (.int .i64 s.blocks) ∧ W.cell? ⟨b, 4, none⟩ = some (.map (some s.mL)) ∧ W.cell? ⟨b, 6, none⟩ = some (.bool s.off) ∧
          W.cell? ⟨b, 7, none⟩ = some (.int .i64 s.ch) ∧ W.cell? ⟨b, 8, none⟩ = some (.int .i64 s.how) ∧ W.cell? ⟨b, 9, none⟩ = some (.bool s.done) ∧ W.cell? ⟨b, 10, none⟩ = some (.int .u64 s.rd) ∧ W.cell? ⟨b, 11, none⟩ = some (.int .u64 s.wt)) (go_keep)
        (first
          | (go_at_call 38; refine (AnyW.maps_Clone_owns Try.cloneM 3 hL s.mL c s.DL wr.drew HC.out.dev.mapL).mono ?_; rintro e w5 ⟨rfl, hm5, _, hb5⟩
             have kb5 : Kept (fun _ => False) wr w5 := (Kept.of_below (below_drew _ wr)).trans (Kept.of_below (S := fun _ => False) hb5) (fun _ _ x => x)
             have f0 := kept_cell_some kb5 d0 id
             have f1 := kept_cell_some kb5 d1 id
             have f4 := kept_cell_some kb5 d4 id
             have f6 := kept_cell_some kb5 d6 id
             have f7 := kept_cell_some kb5 d7 id
             have f8 := kept_cell_some kb5 d8 id
             have f9 := kept_cell_some kb5 d9 id
             have f10 := kept_cell_some kb5 d10 id
             have f11 := kept_cell_some kb5 d11 id
             have hbr5 : b < w5.heap.size := Nat.lt_of_lt_of_le hbr kb5.size))
      obtain ⟨g1, g2, g3, g4⟩ := copy_is HC.out ((below_drew _ wr).trans hb5) hm5
      go_wp2
      refine leaves_cons (f := 28) (args := #[.pointer (some ⟨b, 2, none⟩)]) (by simp) (by simp [go_sem]) ?_
      refine (unlock_dev c .returning _ b s g2).mono ?_
      rintro e u' w6 ⟨rfl, rfl, h6, k6, hs6⟩
      have hb1 := HC.out.own b (.inl rfl)
      have hd6 := g1.kept k6 (fun i hi e => by have := g3 i hi; omega) (fun g hg _ e => g2.own_not_bytes (.inl e) hg)
      refine ⟨_, results_tmp rfl _ _ _, w5.heap.size, wr.heap.size, w1.heap.size, Dn, rfl, h6, hd6, fun i hi => ?_, (k1.trans (Kept.of_below (S := fun _ => False) g4) (fun _ _ x => x.elim)).trans k6 (fun _ _ x => x)⟩
      have := g3 i hi
      have := HS1.out
      omega
    · intro x a len cap kl d ps w2 cnt1 hkey hlx hR hat hrg1 hlt hg1 hs2 hen
      obtain ⟨x', e1, rfl, hwf⟩ := Maps.keyOf_i64 Try.underlying3 hkey
      obtain rfl : x = x' := by simpa [encZ] using e1
      obtain ⟨_, _, _, e0, e2⟩ := hW_inv hR
      clear e0
      simp only [Prod.mk.injEq] at e2
      obtain ⟨rfl, rfl⟩ := e2
      have hv : valAt s.DW x (.slice a len cap) := hat
      have k2 : Kept (fun k => k = w1.heap.size + 1) wr w2 := Kept.of_grown hg1 (fun k e => by cases e; rfl)
      obtain ⟨hne, hrow⟩ := C.dev.row hv
      have hrow2 : rowAt w2 s.X s.size (.slice a len cap) (s.waits x) := by
        obtain ⟨esr, clr, sir, ser, c0r, _, _, _, _, hri, _⟩ := C.rg
        refine rowAt_kept hrow k2 (fun g hg _ e => by obtain ⟨cur, hc⟩ := hg; rw [e, hri] at hc; cases hc) (fun g hg e => ?_)
        have := C.own g (.inr (.inr (.inr ⟨x, _, hv, hg⟩)))
        omega
      have hm2 : w2.ownsMap Try.prog 3 hW w1.heap.size j Dn := map_kept C.map k2 (by omega)
      have hjc : j < 549755813888 := by have := C.cnt; omega
      have HC : Hid (CopyTo c j w1 wr b w1.heap.size (w1.heap.size + 1) s left cnt Dn) := C
      have HR : Hid (w2.ranges Try.prog 3 hW s.mW (w1.heap.size + 1) c s.DW (fun z => left z && !z.sameKey (key x)) cnt1) := hrg1
      have hmlx := hml x
      clear C hrg hrg1 hg1 hR hat hkey hlx hrow h1 k1 c5
      dsimp only [mkK, mkV] at hen ⊢
      go_wp2_with fail
      refine (cloneRow_any s.X s.size h.size.1 _ _ w2 hrow2 hne hmlx).mono ?_
      rintro e w3 ⟨a3, cap3, rfl, hrow3, hfr3, hb3⟩
      obtain ⟨w4, hrun4, hm4, hg4⟩ := (map_kept hm2 (Kept.of_below (S := fun _ => False) hb3) id).update law3 Try.underlying72 (by unfold maxLen; omega) (key_of hwf) (val := .slice a3 (s.waits x).length cap3) (d := .held (.slice a3 (s.waits x).length cap3)) (ps := []) rfl
      have C4 := HC.out.step k2 HR.out hlt hb3 hrow3 hne hfr3 hm4 hg4
      have hms : w4.rangeLeft s.mW (w1.heap.size + 1) < wr.rangeLeft s.mW (w1.heap.size + 1) := by rw [C4.rg.left_eq, HC.out.rg.left_eq]; exact hlt
      have HM : Hid (w4.rangeLeft s.mW (w1.heap.size + 1) < wr.rangeLeft s.mW (w1.heap.size + 1)) := hms
      clear hrow3 hfr3 hm4 hg4 hm2 hrow2 hms hb3
      go_wp2
      exact ⟨⟨_, _, _, _, C4⟩, HM.out⟩
end Go.Proofs.Ytphnajphgiinfaa
