/- What holds while the law DevFates plays its writes: the device beside the law's own two maps. -/
import Derived.Test.YtphnajphgiinfaaSmall
namespace Go.Proofs.Ytphnajphgiinfaa
open Go.RowKit Go.Maps Go.MuLone Go.Sort

/-- How an element of the law's map of bytes reads. -/
def hB : Value → Option (DataW Value × List MemPlace)
  | .int .u8 c => some (.held (.int .u8 c), [])
  | _ => none
theorem hB_inv {v : Value} {y : DataW Value × List MemPlace} (h : hB v = some y) : y = (.held v, []) := by
  unfold hB at h
  split at h
  · cases h; rfl
  · cases h

theorem lookB {w : World} {m c : Nat} {D : DataW Value} (h : w.ownsMap Try.prog 3 hB m c D) {n : Int} (hn : (Lit.int .i64 n).wf = true) {v : Value} (hv : valAt D n v) :
    (Instr.lookup 32 (.map (some m)) (.int .i64 n) false).run Try.prog w = .ok v w := by
  obtain ⟨u, ps, hrun, hu⟩ := h.lookup law3 Try.underlying32 (Try.zeroValue5 w) (zd := .held (.int .u8 0)) (zp := []) rfl (key_of hn)
  rw [hv] at hu
  have e := hB_inv hu
  simp only [Prod.mk.injEq, DataW.held.injEq] at e
  rw [hrun, e.1]
theorem lookB_none {w : World} {m c : Nat} {D : DataW Value} (h : w.ownsMap Try.prog 3 hB m c D) {n : Int} (hn : (Lit.int .i64 n).wf = true) (hv : Maps.has D (key n) = false) :
    (Instr.lookup 32 (.map (some m)) (.int .i64 n) false).run Try.prog w = .ok (.int .u8 0) w := by
  obtain ⟨u, ps, hrun, hu⟩ := h.lookup law3 Try.underlying32 (Try.zeroValue5 w) (zd := .held (.int .u8 0)) (zp := []) rfl (key_of hn)
  rw [atKey_of_not_has hv] at hu
  have e := hB_inv hu
  simp only [Prod.mk.injEq, DataW.held.injEq] at e
  rw [hrun, ← e.1]
theorem lookS {w : World} {m c : Nat} {D : DataW Value} (h : w.ownsMap Try.prog 3 hW m c D) {n : Int} (hn : (Lit.int .i64 n).wf = true) {v : Value} (hv : valAt D n v) :
    (Instr.lookup 38 (.map (some m)) (.int .i64 n) false).run Try.prog w = .ok v w := by
  obtain ⟨u, ps, hrun, hu⟩ := h.lookup law3 Try.underlying38 (Try.zeroValue29 w) (zd := .held (.slice none 0 0)) (zp := []) rfl (key_of hn)
  rw [hv] at hu
  obtain ⟨_, _, _, _, e⟩ := hW_inv hu
  simp only [Prod.mk.injEq, DataW.held.injEq] at e
  rw [hrun, e.1]
theorem lookS_none {w : World} {m c : Nat} {D : DataW Value} (h : w.ownsMap Try.prog 3 hW m c D) {n : Int} (hn : (Lit.int .i64 n).wf = true) (hv : Maps.has D (key n) = false) :
    (Instr.lookup 38 (.map (some m)) (.int .i64 n) false).run Try.prog w = .ok (.slice none 0 0) w := by
  obtain ⟨u, ps, hrun, hu⟩ := h.lookup law3 Try.underlying38 (Try.zeroValue29 w) (zd := .held (.slice none 0 0)) (zp := []) rfl (key_of hn)
  rw [atKey_of_not_has hv] at hu
  obtain ⟨_, _, _, _, e⟩ := hW_inv hu
  simp only [Prod.mk.injEq, DataW.held.injEq] at e
  rw [hrun, ← e.1]

theorem run_write2 (c : Nat) (w0 w : World) (b : Nat) (s : St) (h : Run c b w0 w s) (hs : Calm s) (hc : c ≤ 549755813888) (n : Int) (hn : (Lit.int .i64 n).wf = true) (hml : (s.waits n).length ≤ 1099511627776) (hr : inRange n s.blocks = true) (bv : Value) (bs : List UInt8) (hb : bytesAt w s.size bv bs) :
    Calls Try.prog 11 #[.pointer (some ⟨b, 0, none⟩), .int .i64 n, bv] w fun e w' => e = .returned (.int .i64 0) ∧ ∃ s', Run (c + 1) b w0 w' s' ∧ Calm s' ∧ s'.size = s.size ∧ s'.blocks = s.blocks ∧ s'.lasts = s.lasts ∧
      s'.waits = (fun m => if m = n then s.waits n ++ [bs] else s.waits m) ∧ s'.X = s.X ∧ Kept (Own b s) w w' ∧ (∀ i, Own b s' i → Own b s i ∨ w.heap.size ≤ i) := by
  refine (write_on c w b s h.dev hc hs.off n hn hml hr bv bs hb).mono ?_
  rintro e w' ⟨t, t', k, ho, hd, he⟩
  rw [calm_ch hs] at he
  simp only [Bool.false_eq_true, if_false] at he
  obtain ⟨⟨v, rfl⟩, rfl, rfl⟩ := he
  refine ⟨rfl, _, h.next hd k ho, ⟨hs.off, ?_⟩, rfl, rfl, rfl, rfl, rfl, k, ho⟩
  show max (wrap64 (s.ch - 1)) 0 = 0
  rw [hs.ch]; decide +kernel

theorem run_barrier2 (c : Nat) (w0 w : World) (b : Nat) (s : St) (h : Run c b w0 w s) (hs : Calm s) (hc : c ≤ 549755813888) :
    Calls Try.prog 13 #[.pointer (some ⟨b, 0, none⟩)] w fun e w' => e = .returned (.int .i64 0) ∧ ∃ s', Run (2 * c) b w0 w' s' ∧ Calm s' ∧ s'.size = s.size ∧ s'.blocks = s.blocks ∧ s'.lasts = settledTo s (fun _ => false) ∧
      s'.waits = (fun _ => []) ∧ s'.X = s.X ∧ Kept (Own b s) w w' ∧ (∀ i, Own b s' i → Own b s i ∨ w.heap.size ≤ i) := by
  refine (barrier_on c w b s h.dev hc hs.off).mono ?_
  rintro e w' ⟨t, t', k, ho, hd, he⟩
  rw [calm_ch hs] at he
  simp only [Bool.false_eq_true, if_false] at he
  obtain ⟨⟨m, D, rfl⟩, rfl, rfl⟩ := he
  refine ⟨rfl, _, h.next hd k ho, ⟨hs.off, ?_⟩, rfl, rfl, rfl, rfl, rfl, k, ho⟩
  show max (wrap64 (s.ch - 1)) 0 = 0
  rw [hs.ch]; decide +kernel

/-- While the first writes are played: the law's map 'last' holds the newest value of each block. -/
structure Inv1 (S B c : Nat) (w0 w : World) (b ml : Nat) (s : St) (Dl : DataW Value) : Prop where
  run : Run c b w0 w s
  calm : Calm s
  size : s.size = S
  blocks : s.blocks = B
  last0 : s.lasts = fun _ => none
  map : w.ownsMap Try.prog 3 hB ml c Dl
  new : w0.heap.size ≤ ml
  apart : ¬ Own b s ml
  rel : ∀ m, (Maps.has Dl (key m) = false ∧ s.waits m = []) ∨ ∃ v, valAt Dl m (encB v) ∧ (s.waits m).getLast? = some (List.replicate S v)
  cnt : ∀ m, (s.waits m).length ≤ c
  X : s.X = fun _ => False

theorem Inv1.below {S B c : Nat} {w0 w w' : World} {b ml : Nat} {s : St} {Dl : DataW Value} (h : Inv1 S B c w0 w b ml s Dl) (k : Below w.heap.size w w') : Inv1 S B c w0 w' b ml s Dl :=
  { h with run := h.run.below k, map := map_kept h.map (Kept.of_below (S := fun _ => False) k) id }

theorem inv1_write (S B c : Nat) (w0 w : World) (b ml : Nat) (s : St) (Dl : DataW Value) (h : Inv1 S B c w0 w b ml s Dl) (hc : c ≤ 4194304) (n : Int) (hn : (Lit.int .i64 n).wf = true) (hr : inRange n B = true) (v : UInt8) (vb : Value) (hvb : bytesAt w S vb (List.replicate S v)) :
    Calls Try.prog 11 #[.pointer (some ⟨b, 0, none⟩), .int .i64 n, vb] w fun e w' => e = .returned (.int .i64 0) ∧
      ∃ w'' s' Dl', (Instr.mapUpdate 32 (.map (some ml)) (.int .i64 n) (.int .u8 (v.toNat : Int))).run Try.prog w' = .ok () w'' ∧ Inv1 S B (c + 1) w0 w'' b ml s' Dl' := by
  refine (run_write2 c w0 w b s h.run h.calm (by omega) n hn (by have := h.cnt n; omega) (by rw [h.blocks]; exact hr) vb _ (by rw [h.size]; exact hvb)).mono ?_
  rintro e w' ⟨rfl, s', r', hcalm, h1, h2, h3, h4, h5, k, ho⟩
  have hm := map_kept h.map k h.apart
  obtain ⟨w'', hrun, hm'', hg⟩ := hm.update law3 Try.underlying32 (by unfold maxLen; omega) (key_of hn) (val := .int .u8 (v.toNat : Int)) (d := .held (.int .u8 (v.toNat : Int))) (ps := []) rfl
  have hap : ¬ Own b s' ml := fun x => (ho ml x).elim h.apart (fun y => by have := h.map.lt; omega)
  have k2 : Kept (fun i => i = ml) w' w'' := Kept.of_grown hg (fun i e => by cases e; rfl)
  obtain ⟨es, cl, hes, _⟩ := hm
  have hd2 : DevIs 0 (c + 1) w'' b s' := r'.dev.kept k2 (fun i hi e => hap (e ▸ hi)) (fun g hg _ e => by obtain ⟨cur, hcur⟩ := hg; rw [e, hes] at hcur; cases hcur)
  have hsz := r'.old.size
  refine ⟨rfl, w'', s', _, hrun, { run := ⟨hd2, r'.old.trans (k2.below (fun i e => by rw [e]; exact h.new) hsz), r'.new⟩, calm := hcalm, size := by rw [h1, h.size], blocks := by rw [h2, h.blocks], last0 := by rw [h3, h.last0], map := hm'', new := h.new, apart := hap, rel := ?_, cnt := ?_, X := by rw [h5, h.X] }⟩
  · intro m
    rw [h4]
    by_cases e : m = n
    · subst e
      exact .inr ⟨v, valAt_put (isMap_of h.map) m _, by simp⟩
    · simp only [if_neg e]
      rcases h.rel m with ⟨a1, a2⟩ | ⟨u, a1, a2⟩
      · exact .inl ⟨by rw [has_put_other (key_ne e)]; exact a1, a2⟩
      · exact .inr ⟨u, (valAt_put_other e _ _).2 a1, a2⟩
  · intro m
    rw [h4]
    by_cases e : m = n
    · simp only [if_pos e, List.length_append, List.length_singleton]
      have := h.cnt n
      omega
    · simp only [if_neg e]
      have := h.cnt m
      omega

/-- While the later writes are played: the law's map 'written' holds the values that wait of each block. -/
structure Inv2 (S B c : Nat) (w0 w : World) (b ml mw : Nat) (s : St) (Dl Dw : DataW Value) (Ls : Int → Option (Option (List UInt8))) : Prop where
  run : Run c b w0 w s
  calm : Calm s
  size : s.size = S
  blocks : s.blocks = B
  lasts : s.lasts = Ls
  mapL : w.ownsMap Try.prog 3 hB ml c Dl
  lrel : ∀ m, (Maps.has Dl (key m) = false ∧ Ls m = none) ∨ ∃ v, valAt Dl m (encB v) ∧ Ls m = some (some (List.replicate S v))
  mapW : w.ownsMap Try.prog 3 hW mw c Dw
  newL : w0.heap.size ≤ ml
  newW : w0.heap.size ≤ mw
  apartL : ¬ Own b s ml
  apartW : ¬ Own b s mw
  apart : ml ≠ mw
  rel : ∀ m, (Maps.has Dw (key m) = false ∧ s.waits m = []) ∨ ∃ rv l, valAt Dw m rv ∧ l ≠ [] ∧ w.ownsRow w0.heap.size 5 1 rv l.length (l.map encB) ∧ s.waits m = l.map (fun v => List.replicate S v) ∧ ∀ g, rv.ownBlock = some g → s.X g
  rows : ∀ n n' v v', valAt Dw n v → valAt Dw n' v' → n ≠ n' → v.ownBlock ≠ v'.ownBlock
  cnt : ∀ m, (s.waits m).length ≤ c
  rng : ∀ m, s.waits m ≠ [] → inRange m B = true

theorem Inv2.below {S B c : Nat} {w0 w w' : World} {b ml mw : Nat} {s : St} {Dl Dw : DataW Value} {Ls : Int → Option (Option (List UInt8))} (h : Inv2 S B c w0 w b ml mw s Dl Dw Ls) (k : Below w.heap.size w w') : Inv2 S B c w0 w' b ml mw s Dl Dw Ls := by
  have kk : Kept (fun _ => False) w w' := Kept.of_below k
  exact { h with run := h.run.below k, mapL := map_kept h.mapL kk id, mapW := map_kept h.mapW kk id, rel := fun m => (h.rel m).imp id (fun ⟨rv, l, a1, a2, a3, a4, a5⟩ => ⟨rv, l, a1, a2, row_kept a3 kk (fun _ _ => id), a4, a5⟩) }

theorem inv1_barrier (S B c : Nat) (w0 w : World) (b ml : Nat) (s : St) (Dl : DataW Value) (h : Inv1 S B c w0 w b ml s Dl) (hc : c ≤ 4194304) :
    Calls Try.prog 13 #[.pointer (some ⟨b, 0, none⟩)] w fun e w' => e = .returned (.int .i64 0) ∧
      ∃ s' Ls, Inv2 S B (2 * c) w0 (w'.alloc (.map #[] 0)) b ml w'.heap.size s' Dl (.map []) Ls ∧ s'.waits = (fun _ => []) := by
  refine (run_barrier2 c w0 w b s h.run h.calm (by omega)).mono ?_
  rintro e w' ⟨rfl, s', r', hcalm, h1, h2, h3, h4, h5, k, ho⟩
  have hm := map_kept h.map k h.apart
  have hap : ¬ Own b s' ml := fun x => (ho ml x).elim h.apart (fun y => by have := h.map.lt; omega)
  have ha : Below w'.heap.size w' (w'.alloc (.map #[] 0)) := (Below.refl _ _).alloc (Nat.le_refl _) _
  refine ⟨rfl, s', settledTo s (fun _ => false), { run := r'.below ha, calm := hcalm, size := by rw [h1, h.size], blocks := by rw [h2, h.blocks], lasts := h3, mapL := (hm.alloc _).mono (by omega), lrel := ?_, mapW := (World.ownsMap_made _ _ _ _).mono (Nat.zero_le _), newL := h.new, newW := r'.old.size, apartL := hap, apartW := fun x => by have := r'.dev.own_lt x; omega, apart := fun e => by have := hm.lt; omega, rel := fun m => .inl ⟨rfl, by rw [h4]⟩, rows := fun n n' v v' hv => by have := valAt_has hv; simp [Maps.has] at this, cnt := fun m => by rw [h4]; exact Nat.zero_le _, rng := fun m hm => by rw [h4] at hm; exact absurd rfl hm }, h4⟩
  intro m
  unfold settledTo
  rcases h.rel m with ⟨a1, a2⟩ | ⟨v, a1, a2⟩
  · exact .inl ⟨a1, by simp [a2, h.last0]⟩
  · refine .inr ⟨v, a1, ?_⟩
    have hne : s.waits m ≠ [] := by intro e; rw [e] at a2; cases a2
    simp [hne, a2]

/-- A new block is made none of the device's, while blocks are written that are none of its own. -/
theorem DevIs.adopts {lk : Int} {c : Nat} {S : Nat → Prop} {w w' : World} {b : Nat} {s : St} (h : DevIs lk c w b s) (k : Kept S w w') (ho : ∀ i, Own b s i → ¬ S i) (hs : ∀ g, isBytes w g → ¬ s.X g → ¬ S g) {g : Nat} (hg : w.heap.size ≤ g) (hg' : g < w'.heap.size) :
    DevIs lk c w' b { s with X := fun i => s.X i ∨ i = g } := by
  have h' := h.kept k ho hs
  have href : ∀ n v bs, refAt w s.X n v bs → refAt w' (fun i => s.X i ∨ i = g) n v bs := fun n v bs hr =>
    ⟨row_kept hr.1 k (fun i hi => hs i (bytesAt_block hr.1 i hi) (hr.2 i hi)), fun i hi hx => hx.elim (hr.2 i hi) (fun e => by
      obtain ⟨cur, hc⟩ := bytesAt_block hr.1 i hi
      have := (Array.getElem?_eq_some_iff.1 hc).1
      omega)⟩
  refine { cells := h'.cells, mapL := h'.mapL, mapW := h'.mapW, apart := h'.apart, last := ?_, wait := ?_, rows := h'.rows, size := h'.size, blocks := h'.blocks, alien := fun i hi => hi.elim (h'.alien i) (fun e => by omega) }
  · intro n
    have := h.last n
    unfold lastAt at this ⊢
    dsimp only
    cases e : s.lasts n with
    | none => rw [e] at this; exact this
    | some r => cases r with
      | none => rw [e] at this; exact this
      | some bs =>
        rw [e] at this
        obtain ⟨v, h1, h2⟩ := this
        exact ⟨v, h1, href _ _ _ h2⟩
  · intro n
    by_cases e : s.waits n = []
    · have := waitAt_none (h.wait n) e
      unfold waitAt
      dsimp only
      rw [e]
      exact this
    · obtain ⟨v, h1, vs, h2, h3, h4⟩ := waitAt_some (h.wait n) e
      unfold waitAt
      dsimp only
      cases e2 : s.waits n with
      | nil => exact absurd e2 e
      | cons x r =>
        refine ⟨v, h1, vs, row_kept h2 k (fun i hi => ho i (.inr (.inr (.inr ⟨n, v, h1, hi⟩)))), by rw [← e2]; exact h3, fun i u bs a b => href _ _ _ (h4 i u bs a (by rw [e2]; exact b))⟩

/-- Behind a later write, ahead of the law's own note of it. -/
structure Wrote2 (S B c : Nat) (w0 w : World) (b ml mw : Nat) (s s' : St) (Dl Dw : DataW Value) (Ls : Int → Option (Option (List UInt8))) (n : Int) (v : UInt8) : Prop where
  run : Run (c + 1) b w0 w s'
  calm : Calm s'
  size : s'.size = S
  blocks : s'.blocks = B
  lasts : s'.lasts = Ls
  mapL : w.ownsMap Try.prog 3 hB ml c Dl
  lrel : ∀ m, (Maps.has Dl (key m) = false ∧ Ls m = none) ∨ ∃ v, valAt Dl m (encB v) ∧ Ls m = some (some (List.replicate S v))
  mapW : w.ownsMap Try.prog 3 hW mw c Dw
  newL : w0.heap.size ≤ ml
  newW : w0.heap.size ≤ mw
  apartL : ¬ Own b s' ml
  apartW : ¬ Own b s' mw
  apart : ml ≠ mw
  rel : ∀ m, (Maps.has Dw (key m) = false ∧ s.waits m = []) ∨ ∃ rv l, valAt Dw m rv ∧ l ≠ [] ∧ w.ownsRow w0.heap.size 5 1 rv l.length (l.map encB) ∧ s.waits m = l.map (fun v => List.replicate S v) ∧ ∀ g, rv.ownBlock = some g → s'.X g
  rows : ∀ n n' v v', valAt Dw n v → valAt Dw n' v' → n ≠ n' → v.ownBlock ≠ v'.ownBlock
  cnt : ∀ m, (s.waits m).length ≤ c
  waits : s'.waits = fun m => if m = n then s.waits n ++ [List.replicate S v] else s.waits m
  rng : ∀ m, s.waits m ≠ [] → inRange m B = true
  nrng : inRange n B = true

theorem inv2_write (S B c : Nat) (w0 w : World) (b ml mw : Nat) (s : St) (Dl Dw : DataW Value) (Ls : Int → Option (Option (List UInt8))) (h : Inv2 S B c w0 w b ml mw s Dl Dw Ls) (hc : c ≤ 549755813888) (n : Int) (hn : (Lit.int .i64 n).wf = true) (hr : inRange n B = true) (v : UInt8) (vb : Value) (hvb : bytesAt w S vb (List.replicate S v)) :
    Calls Try.prog 11 #[.pointer (some ⟨b, 0, none⟩), .int .i64 n, vb] w fun e w' => e = .returned (.int .i64 0) ∧ ∃ s', Wrote2 S B c w0 w' b ml mw s s' Dl Dw Ls n v := by
  refine (run_write2 c w0 w b s h.run h.calm hc n hn (by have := h.cnt n; omega) (by rw [h.blocks]; exact hr) vb _ (by rw [h.size]; exact hvb)).mono ?_
  rintro e w' ⟨rfl, s', r', hcalm, h1, h2, h3, h4, h5, k, ho⟩
  refine ⟨rfl, s', { run := r', calm := hcalm, size := by rw [h1, h.size], blocks := by rw [h2, h.blocks], lasts := by rw [h3, h.lasts], mapL := map_kept h.mapL k h.apartL, lrel := h.lrel, mapW := map_kept h.mapW k h.apartW, newL := h.newL, newW := h.newW, apartL := fun x => (ho ml x).elim h.apartL (fun y => by have := h.mapL.lt; omega), apartW := fun x => (ho mw x).elim h.apartW (fun y => by have := h.mapW.lt; omega), apart := h.apart, rel := ?_, rows := h.rows, cnt := h.cnt, waits := h4, rng := h.rng, nrng := hr }⟩
  intro m
  refine (h.rel m).imp id (fun ⟨rv, l, a1, a2, a3, a4, a5⟩ => ⟨rv, l, a1, a2, row_kept a3 k (fun g hg hown => ?_), a4, fun g hg => by rw [h5]; exact a5 g hg⟩)
  exact h.run.dev.own_not_bytes hown (bytesAt_block (row_base a3 (Nat.zero_le _) : bytesAt w _ rv l) g hg)

/-- The law's row of a block, whether or not there is one. -/
theorem Wrote2.row {S B c : Nat} {w0 w : World} {b ml mw : Nat} {s s' : St} {Dl Dw : DataW Value} {Ls : Int → Option (Option (List UInt8))} {n : Int} {v : UInt8} (h : Wrote2 S B c w0 w b ml mw s s' Dl Dw Ls n v) (hn : (Lit.int .i64 n).wf = true) :
    ∃ (rv : Value) (l : List UInt8), (∀ W : World, W.ownsMap Try.prog 3 hW mw c Dw → (Instr.lookup 38 (.map (some mw)) (.int .i64 n) false).run Try.prog W = .ok rv W) ∧ w.ownsRow w0.heap.size 5 1 rv l.length (l.map encB) ∧ s.waits n = l.map (fun v => List.replicate S v) ∧
      (∀ g, rv.ownBlock = some g → s'.X g ∧ valAt Dw n rv) := by
  rcases h.rel n with ⟨a1, a2⟩ | ⟨rv, l, a1, a2, a3, a4, a5⟩
  · exact ⟨.slice none 0 0, [], fun W hW => lookS_none hW hn a1, World.ownsRow_nil _ _ _ _, a2, fun g hg => by cases hg⟩
  · exact ⟨rv, l, fun W hW => lookS hW hn a1, a3, a4, fun g hg => ⟨a5 g hg, a1⟩⟩

theorem Wrote2.put {S B c : Nat} {w0 w w3 w4 : World} {b ml mw : Nat} {s s' : St} {Dl Dw : DataW Value} {Ls : Int → Option (Option (List UInt8))} {n : Int} {v : UInt8} (h : Wrote2 S B c w0 w b ml mw s s' Dl Dw Ls n v)
    {rv : Value} {l : List UInt8} {g cap : Nat} (hw : s.waits n = l.map (fun v => List.replicate S v)) (hrv : ∀ g, rv.ownBlock = some g → s'.X g ∧ valAt Dw n rv) (hrow : w.ownsRow w0.heap.size 5 1 rv l.length (l.map encB))
    (hown3 : w3.ownsRow w0.heap.size 5 1 (.slice (some ⟨g, 0, none⟩) (l.length + 1) cap) (l.length + 1) (l.map encB ++ [encB v])) (hgr3 : (w.alloc (.cells #[encB v] 5)).grownBy w3 rv.ownBlock) (hg3 : rv.ownBlock = some g ∨ g = w.heap.size + 1) (hlt : g < w3.heap.size)
    (hm4 : w4.ownsMap Try.prog 3 hW mw (c + 1) (Dw.put (key n) (.held (.slice (some ⟨g, 0, none⟩) (l.length + 1) cap)))) (hgr4 : w3.grownBy w4 (some mw)) :
    ∃ s'', Inv2 S B (c + 1) w0 w4 b ml mw s'' Dl (Dw.put (key n) (.held (.slice (some ⟨g, 0, none⟩) (l.length + 1) cap))) Ls := by
  have ka : Below w.heap.size w (w.alloc (.cells #[encB v] 5)) := (Below.refl _ _).alloc (Nat.le_refl _) _
  have k3 : Kept (fun i => rv.ownBlock = some i) (w.alloc (.cells #[encB v] 5)) w3 := Kept.of_grown hgr3 (fun i e => e)
  have k4 : Kept (fun i => i = mw) w3 w4 := Kept.of_grown hgr4 (fun i e => by cases e; rfl)
  have hb0 : ∀ i, rv.ownBlock = some i → isBytes w i := fun i hi => bytesAt_block (row_base hrow (Nat.zero_le _) : bytesAt w _ rv l) i hi
  have hb1 : ∀ i, rv.ownBlock = some i → isBytes (w.alloc (.cells #[encB v] 5)) i := fun i hi => by
    obtain ⟨cur, hc⟩ := hb0 i hi
    exact ⟨cur, (ka.block i (Array.getElem?_eq_some_iff.1 hc).1).trans hc⟩
  have hbs : ∀ i, rv.ownBlock = some i → w0.heap.size ≤ i := fun i hi => row_fresh hrow hi
  have hda := h.run.dev.below ka
  have hoa : ∀ i, Own b s' i → ¬ rv.ownBlock = some i := fun i hi e => hda.own_not_bytes hi (hb1 i e)
  have hsa : ∀ i, isBytes (w.alloc (.cells #[encB v] 5)) i → ¬ s'.X i → ¬ rv.ownBlock = some i := fun i _ hx e => hx (hrv i e).1
  have hn1 : ∀ m, ¬ rv.ownBlock = some m ∨ ¬ ∃ es cl, w.heap[m]? = some (.map es cl) := fun m => by
    by_cases e : rv.ownBlock = some m
    · right; rintro ⟨es, cl, hm⟩; obtain ⟨cur, hc⟩ := hb0 m e; rw [hm] at hc; cases hc
    · left; exact e
  have isM : ∀ {R : Value → Option (DataW Value × List MemPlace)} {m c : Nat} {D : DataW Value}, w.ownsMap Try.prog 3 R m c D → ¬ rv.ownBlock = some m := fun {R m c D} hm => by
    obtain ⟨es, cl, he, _⟩ := hm
    exact (hn1 m).resolve_right (fun x => x ⟨es, cl, he⟩)
  have hmL3 := map_kept (h.mapL.alloc (.cells #[encB v] 5)) k3 (isM h.mapL)
  have hmW3 := map_kept (h.mapW.alloc (.cells #[encB v] 5)) k3 (isM h.mapW)
  obtain ⟨es, cl, hmwb, _⟩ := hmW3
  have nb4 : ∀ i, isBytes w3 i → ¬ i = mw := fun i hi e => by obtain ⟨cur, hc⟩ := hi; rw [e, hmwb] at hc; cases hc
  have hsz := h.run.old.size
  have hold : Below w0.heap.size w0 w4 := ((h.run.old.trans (ka.mono hsz)).trans (k3.below hbs (by have := ka.size; omega))).trans (k4.below (fun i e => by rw [e]; exact h.newW) (by have := ka.size; have := k3.size; omega))
  -- the rows of other blocks
  have hrel : ∀ (Xs : Nat → Prop), (∀ i, s'.X i → Xs i) → Xs g → ∀ m, (Maps.has (Dw.put (key n) (.held (.slice (some ⟨g, 0, none⟩) (l.length + 1) cap))) (key m) = false ∧ s'.waits m = []) ∨
      ∃ rv' l', valAt (Dw.put (key n) (.held (.slice (some ⟨g, 0, none⟩) (l.length + 1) cap))) m rv' ∧ l' ≠ [] ∧ w4.ownsRow w0.heap.size 5 1 rv' l'.length (l'.map encB) ∧ s'.waits m = l'.map (fun v => List.replicate S v) ∧ ∀ i, rv'.ownBlock = some i → Xs i := by
    intro Xs hXs hXg m
    by_cases e : m = n
    · subst e
      refine .inr ⟨_, l ++ [v], valAt_put (isMap_of h.mapW) m _, by simp, ?_, ?_, fun i hi => by cases hi; exact hXg⟩
      · have : w3.ownsRow w0.heap.size 5 1 (.slice (some ⟨g, 0, none⟩) (l.length + 1) cap) (l ++ [v]).length ((l ++ [v]).map encB) := by simpa using hown3
        exact row_kept this k4 (fun i hi => nb4 i (bytesAt_block (row_base this (Nat.zero_le _) : bytesAt w3 _ _ (l ++ [v])) i hi))
      · rw [h.waits]; simp [hw]
    · rcases h.rel m with ⟨a1, a2⟩ | ⟨rv', l', a1, a2, a3, a4, a5⟩
      · exact .inl ⟨by rw [has_put_other (key_ne e)]; exact a1, by rw [h.waits]; simp [e, a2]⟩
      · have hne : ∀ i, rv'.ownBlock = some i → ¬ rv.ownBlock = some i := fun i hi hi2 => h.rows m n rv' rv a1 (hrv i hi2).2 e (hi.trans hi2.symm)
        have r3 : w3.ownsRow w0.heap.size 5 1 rv' l'.length (l'.map encB) := row_kept (a3.alloc _) k3 hne
        exact .inr ⟨rv', l', (valAt_put_other e _ _).2 a1, a2, row_kept r3 k4 (fun i hi => nb4 i (bytesAt_block (row_base r3 (Nat.zero_le _) : bytesAt w3 _ _ l') i hi)), by rw [h.waits]; simp [e, a4], fun i hi => hXs i (a5 i hi)⟩
  have hrows : ∀ m m' u u', valAt (Dw.put (key n) (.held (.slice (some ⟨g, 0, none⟩) (l.length + 1) cap))) m u → valAt (Dw.put (key n) (.held (.slice (some ⟨g, 0, none⟩) (l.length + 1) cap))) m' u' → m ≠ m' → u.ownBlock ≠ u'.ownBlock := by
    have hput := valAt_put (isMap_of h.mapW) n (.slice (some ⟨g, 0, none⟩) (l.length + 1) cap)
    have hnew : ∀ x y, valAt Dw x y → x ≠ n → y.ownBlock ≠ some g := fun x y hx hxn hy => by
      rcases hg3 with hg | hg
      · exact h.rows x n y rv hx (hrv g hg).2 hxn (hy.trans hg.symm)
      · rcases h.rel x with ⟨a1, _⟩ | ⟨rv', l', a1, _, a3, _⟩
        · rw [valAt_has hx] at a1; cases a1
        · cases valAt_fun hx a1
          obtain ⟨cur, hc⟩ := bytesAt_block (row_base a3 (Nat.zero_le _) : bytesAt w _ _ l') g hy
          have := (Array.getElem?_eq_some_iff.1 hc).1
          omega
    intro m m' u u' hu hu' hne
    by_cases e : m = n
    · subst e
      rw [valAt_put_other (Ne.symm hne)] at hu'
      cases valAt_fun hu hput
      exact fun e2 => hnew m' u' hu' (Ne.symm hne) e2.symm
    · rw [valAt_put_other e] at hu
      by_cases e' : m' = n
      · subst e'
        cases valAt_fun hu' hput
        exact hnew m u hu e
      · rw [valAt_put_other e'] at hu'
        exact h.rows m m' u u' hu hu' hne
  have hcnt : ∀ m, (s'.waits m).length ≤ c + 1 := by
    intro m
    rw [h.waits]
    by_cases e : m = n
    · simp only [if_pos e, List.length_append, List.length_singleton]
      have := h.cnt n
      omega
    · simp only [if_neg e]
      have := h.cnt m
      omega
  have hrng : ∀ m, s'.waits m ≠ [] → inRange m B = true := by
    intro m hm
    rw [h.waits] at hm
    by_cases e : m = n
    · rw [e]; exact h.nrng
    · simp only [if_neg e] at hm; exact h.rng m hm
  have hmL4 := (map_kept hmL3 k4 h.apart).mono (Nat.le_succ c)
  rcases hg3 with hg | hg
  · have hd3 := hda.kept k3 hoa hsa
    have hd4 := hd3.kept k4 (fun i hi e => h.apartW (e ▸ hi)) (fun i hi _ => nb4 i hi)
    exact ⟨s', { run := ⟨hd4, hold, h.run.new⟩, calm := h.calm, size := h.size, blocks := h.blocks, lasts := h.lasts, mapL := hmL4, lrel := h.lrel, mapW := hm4, newL := h.newL, newW := h.newW, apartL := h.apartL, apartW := h.apartW, apart := h.apart, rel := hrel s'.X (fun _ x => x) (hrv g hg).1, rows := hrows, cnt := hcnt, rng := hrng }⟩
  · have hd3 := hda.adopts k3 hoa hsa (g := g) (by simp; omega) hlt
    have hd4 := hd3.kept k4 (fun i hi e => h.apartW (e ▸ hi)) (fun i hi _ => nb4 i hi)
    exact ⟨{ s' with X := fun i => s'.X i ∨ i = g }, { run := ⟨hd4, hold, h.run.new⟩, calm := ⟨h.calm.off, h.calm.ch⟩, size := h.size, blocks := h.blocks, lasts := h.lasts, mapL := hmL4, lrel := h.lrel, mapW := hm4, newL := h.newL, newW := h.newW, apartL := h.apartL, apartW := h.apartW, apart := h.apart, rel := hrel _ (fun _ x => .inl x) (.inr rfl), rows := hrows, cnt := hcnt, rng := hrng }⟩
end Go.Proofs.Ytphnajphgiinfaa
