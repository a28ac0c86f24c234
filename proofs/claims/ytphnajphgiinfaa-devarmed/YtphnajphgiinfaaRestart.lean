/- The method Restart: of what waits each block is what its fate says. -/
import Derived.Test.YtphnajphgiinfaaMeet
namespace Go.Proofs.Ytphnajphgiinfaa
open Go.RowKit Go.Maps Go.MuLone Go.Sort

/-- What a fate makes of a block of which l waits: none: it stays as it lasted. -/
def fateOf (l : List (List UInt8)) (f : Int) : Option (Option (List UInt8)) :=
  if 1 ≤ f then
    match l[(f - 1).toNat]? with
    | some bs => some (some bs)
    | none => if f = (l.length : Int) + 1 then some none else none
  else none

/-- What lasts behind the first fates. -/
def metTo (s : St) (K fates : List Int) : Nat → Int → Option (Option (List UInt8))
  | 0 => s.lasts
  | k + 1 => fun m => match K[k]?, fates[k]? with
    | some n, some f => if m = n then (match fateOf (s.waits n) f with | some r => some r | none => metTo s K fates k m) else metTo s K fates k m
    | _, _ => metTo s K fates k m

/-- The device behind k fates: all but what lasts is as it was. -/
structure MetIs (c : Nat) (w : World) (b : Nat) (s : St) (K fates : List Int) (k : Nat) (t : St) : Prop where
  dev : DevIs 1 (c + k) w b t
  last : t.lasts = metTo s K fates k
  same : t = { s with DL := t.DL, lasts := t.lasts }

theorem MetIs.waits {c : Nat} {w : World} {b : Nat} {s : St} {K fates : List Int} {k : Nat} {t : St} (h : MetIs c w b s K fates k t) : t.waits = s.waits := by rw [h.same]
theorem MetIs.mL {c : Nat} {w : World} {b : Nat} {s : St} {K fates : List Int} {k : Nat} {t : St} (h : MetIs c w b s K fates k t) : t.mL = s.mL := by rw [h.same]
theorem MetIs.mW {c : Nat} {w : World} {b : Nat} {s : St} {K fates : List Int} {k : Nat} {t : St} (h : MetIs c w b s K fates k t) : t.mW = s.mW := by rw [h.same]

theorem DevIs.more {lk : Int} {c d : Nat} {w : World} {b : Nat} {s : St} (h : DevIs lk c w b s) (hd : c ≤ d) : DevIs lk d w b s :=
  { h with mapL := h.mapL.mono hd, mapW := h.mapW.mono hd }

/-- One fate. -/
theorem meet_any (c : Nat) (w : World) (b : Nat) (s t : St) (K fates : List Int) (k : Nat) (h : MetIs c w b s K fates k t) (hc : c + k ≤ 1099511627776) (n f : Int) (hK : K[k]? = some n) (hf : fates[k]? = some f) (hn : (Lit.int .i64 n).wf = true)
    (hne : s.waits n ≠ []) (hm : (s.waits n).length ≤ 1099511627776) :
    Calls Try.prog 35 #[.pointer (some ⟨b, 0, none⟩), .int .i64 n, .int .i64 f] w fun e w' => ∃ t', e = .returned (.tuple #[]) ∧ MetIs c w' b s K fates (k + 1) t' ∧ Kept (fun k => k = s.mL) w w' ∧ w'.heap.size = w.heap.size := by
  have hw := h.waits
  have hne' : t.waits n ≠ [] := by rw [hw]; exact hne
  have hput : ∀ (w' : World) v r, fateOf (s.waits n) f = some r → DevIs 1 (c + k + 1) w' b (t.put n v r) → MetIs c w' b s K fates (k + 1) (t.put n v r) := by
    intro w' v r hr hd
    refine ⟨hd, ?_, ?_⟩
    · funext m
      simp only [St.put, metTo, hK, hf, hr, h.last]
    · rw [h.same]; rfl
  by_cases h1 : 1 ≤ f
  · cases hb : (s.waits n)[(f - 1).toNat]? with
    | some bs =>
      refine (meet_write 1 (c + k) w b t h.dev hc n f hn bs h1 (by rw [hw]; exact hb)).mono ?_
      rintro e w' ⟨v, rfl, hd, hk, hs⟩
      exact ⟨_, rfl, hput w' v _ (by simp only [fateOf, if_pos h1, hb]) hd, by rw [← h.mL]; exact hk, hs⟩
    | none =>
      by_cases h2 : f = ((s.waits n).length : Int) + 1
      · refine (meet_garble 1 (c + k) w b t h.dev hc n hn hne' f (by rw [hw]; exact h2) (by rw [hw]; exact hm)).mono ?_
        rintro e w' ⟨v, rfl, hd, hk, hs⟩
        exact ⟨_, rfl, hput w' v _ (by simp only [fateOf, if_pos h1, hb]; rw [if_pos h2]) hd, by rw [← h.mL]; exact hk, hs⟩
      · have hlen : (s.waits n).length ≤ (f - 1).toNat := by simpa using hb
        refine (meet_none 1 (c + k) w b t h.dev n hn hne' f (.inr (by rw [hw]; omega)) (by rw [hw]; exact hm)).mono ?_
        rintro e w' ⟨rfl, rfl⟩
        have hr : fateOf (s.waits n) f = none := by simp only [fateOf, if_pos h1, hb]; rw [if_neg h2]
        refine ⟨t, rfl, ⟨h.dev.more (by omega), ?_, h.same⟩, Kept.refl _ _, rfl⟩
        funext m
        simp only [metTo, hK, hf, hr, h.last]
        split <;> rfl
  · refine (meet_none 1 (c + k) w b t h.dev n hn hne' f (.inl (by omega)) (by rw [hw]; exact hm)).mono ?_
    rintro e w' ⟨rfl, rfl⟩
    have hr : fateOf (s.waits n) f = none := by simp only [fateOf, if_neg h1]
    refine ⟨t, rfl, ⟨h.dev.more (by omega), ?_, h.same⟩, Kept.refl _ _, rfl⟩
    funext m
    simp only [metTo, hK, hf, hr, h.last]
    split <;> rfl

/-- No fate: nothing. -/
theorem MetIs.skip {c : Nat} {w : World} {b : Nat} {s t : St} {K fates : List Int} {k : Nat} (h : MetIs c w b s K fates k t) (hf : fates[k]? = none) : MetIs c w b s K fates (k + 1) t := by
  refine ⟨h.dev.more (by omega), ?_, h.same⟩
  funext m
  simp only [metTo, hf, h.last]
  split <;> simp_all

/-- The device behind a Restart; m: the block of its new map. -/
def St.restart (s : St) (fates : List Int) (m : Nat) (D : DataW Value) : St :=
  { s with DL := D, lasts := metTo s (intKeys s.DW) fates (intKeys s.DW).length, mW := m, DW := .map [], waits := fun _ => [], off := false, ch := 0, how := 0, done := false }

/-- The fates, as a slice that is nothing of the device's. -/
def fatesAt (w : World) (b : Nat) (s : St) (a : Option Addr) (fates : List Int) : Prop :=
  ∀ (i : Nat) f, fates[i]? = some f → ∃ g off, a = some ⟨g, off, none⟩ ∧ g < w.heap.size ∧ ¬ Own b s g ∧ w.cell? ⟨g, off + i, none⟩ = some (.int .i64 f)

theorem kept_cell {S : Nat → Prop} {w w' : World} (k : Kept S w w') {g o : Nat} (hg : g < w.heap.size) (hs : ¬ S g) : w'.cell? ⟨g, o, none⟩ = w.cell? ⟨g, o, none⟩ := by
  simp [World.cell?, k.block g hg hs]

/-- The power is on, and the device is not armed. -/
theorem DevIs.calm {lk : Int} {c : Nat} {w : World} {b : Nat} {s : St} (h : DevIs lk c w b s) :
    DevIs lk c ((((w.setCell ⟨b, 6, none⟩ (.bool false)).setCell ⟨b, 7, none⟩ (.int .i64 0)).setCell ⟨b, 8, none⟩ (.int .i64 0)).setCell ⟨b, 9, none⟩ (.bool false)) b { s with off := false, ch := 0, how := 0, done := false } ∧
    Kept (fun k => k = b) w ((((w.setCell ⟨b, 6, none⟩ (.bool false)).setCell ⟨b, 7, none⟩ (.int .i64 0)).setCell ⟨b, 8, none⟩ (.int .i64 0)).setCell ⟨b, 9, none⟩ (.bool false)) := by
  have h1 := h.set (lk' := lk) (s' := { s with off := false }) 6 (.bool false) rfl rfl rfl rfl rfl rfl rfl rfl rfl
  have h2 := h1.1.set (lk' := lk) (s' := { s with off := false, ch := 0 }) 7 (.int .i64 0) rfl rfl rfl rfl rfl rfl rfl rfl rfl
  have h3 := h2.1.set (lk' := lk) (s' := { s with off := false, ch := 0, how := 0 }) 8 (.int .i64 0) rfl rfl rfl rfl rfl rfl rfl rfl rfl
  have h4 := h3.1.set (lk' := lk) (s' := { s with off := false, ch := 0, how := 0, done := false }) 9 (.bool false) rfl rfl rfl rfl rfl rfl rfl rfl rfl
  exact ⟨h4.1, ((h1.2.trans h2.2 (fun _ _ x => x)).trans h3.2 (fun _ _ x => x)).trans h4.2 (fun _ _ x => x)⟩

set_option maxHeartbeats 1000000 in
set_option maxRecDepth 100000 in
theorem restart_any (c : Nat) (w : World) (b : Nat) (s : St) (h : DevIs 0 c w b s) (hc : c ≤ 549755813888) (a : Option Addr) (fates : List Int) (cap : Nat) (hfa : fatesAt w b s a fates)
    (hml : ∀ n, (s.waits n).length ≤ 1099511627776) :
    Calls Try.prog 15 #[.pointer (some ⟨b, 0, none⟩), .slice a fates.length cap] w fun e w' => ∃ m D, e = .returned (.tuple #[]) ∧ w.heap.size ≤ m ∧ DevIs 0 (2 * c) w' b (s.restart fates m D) ∧ Kept (fun k => k = b ∨ k = s.mL) w w' := by
  obtain ⟨kf1, kf2, kf3, kf4, kf5⟩ := keys_facts h.mapW
  unfold St.restart
  generalize hKs : intKeys s.DW = K at *
  have HK : Hid (intKeys s.DW = K) := hKs
  clear hKs
  go_enter_defers Try.func15, Try.ntmps15
  go_wp2_with fail
  refine (lock_dev c _ b s h).mono ?_
  rintro e w1 ⟨rfl, h1, k1, hs1⟩
  go_wp2_with fail
  refine (waiting_any 1 c _ b s h1 (by omega)).mono ?_
  rintro e w2 ⟨aK, capK, he, hcell, hb2⟩
  have h2 := h1.below hb2
  have hsz2 := hb2.size
  rw [HK.out] at he hcell
  subst he
  have hfa2 : ∀ (i : Nat) f, fates[i]? = some f → ∃ g off, a = some ⟨g, off, none⟩ ∧ g < w2.heap.size ∧ ¬ Own b s g ∧ w2.cell? ⟨g, off + i, none⟩ = some (.int .i64 f) := by
    intro i f hi
    obtain ⟨g, off, e1, e2, e3, e4⟩ := hfa i f hi
    refine ⟨g, off, e1, by omega, e3, ?_⟩
    rw [hb2.cell (p := ⟨g, off + i, none⟩) (by show g < _; omega), kept_cell k1 e2 (fun e => e3 (.inl e))]
    exact e4
  clear hfa
  go_wp2_with fail
  go_loopw [16] (fun i wr => ∃ (k : Nat) (t : St), k ≤ K.length ∧ i = .int .i64 k ∧ MetIs c wr b s K fates k t ∧ Kept (fun j => j = s.mL) w2 wr ∧ wr.heap.size = w2.heap.size) (fun i _ => K.length - (intOf i).toNat)
  case atStart => exact ⟨0, s, Nat.zero_le _, rfl, ⟨h2, rfl, rfl⟩, Kept.refl _ _, rfl⟩
  case round =>
    obtain ⟨k, t, hk, rfl, hmet, hkw, hsz⟩ := hrel
    by_cases hlt : k < K.length
    · obtain ⟨g, rfl, hg1, hg2, hg3⟩ := hcell k K[k] (List.getElem?_eq_getElem hlt)
      have hmLlt := h1.mapL.lt
      have hcg := (kept_cell hkw hg2 (o := k) (by omega)).trans hg3
      have hmem : K[k] ∈ K := List.getElem_mem hlt
      have hwf := kf5 _ hmem
      have hhas := (kf2 _).1 hmem
      have hKk : K[k]? = some K[k] := List.getElem?_eq_getElem hlt
      have HKk : Hid (K[k]? = some K[k]) := hKk
      clear hKk
      generalize K[k] = nk at *
      have hne : s.waits nk ≠ [] := fun e => by have := waitAt_none (h2.wait nk) e; rw [hhas] at this; cases this
      have hml' := hml nk
      have hk63 : (K.length : Int) ≤ 1099511627776 := by omega
      by_cases hfl2 : k < fates.length
      · obtain ⟨g', off', rfl, e2, e3, e4⟩ := hfa2 k fates[k] (List.getElem?_eq_getElem hfl2)
        have hcf := (kept_cell hkw e2 (o := off' + k) (fun e => e3 (.inr (.inl e)))).trans e4
        have HF : Hid (fates[k]? = some fates[k]) := List.getElem?_eq_getElem hfl2
        generalize fates[k] = fk at *
        clear hhas hmem hg3 kf1 kf2 kf4 kf5 hcell hfa2 e4
        go_wp2_with fail
        refine (meet_any c wr b s t K fates k hmet (by omega) nk fk HKk.out HF.out hwf hne hml').mono ?_
        rintro e w3 ⟨t', rfl, hmet', hk', hs'⟩
        go_wp2
        exact ⟨⟨k + 1, t', by omega, by go_num, hmet', hkw.trans hk' (fun _ _ x => x), by omega⟩, by simp [intOf]; omega⟩
      · have hfn : fates[k]? = none := by simp; omega
        have hmet' := hmet.skip hfn
        clear hhas hmem hg3 kf1 kf2 kf4 kf5 hcell hfa2 hfn
        go_wp2
        exact ⟨⟨k + 1, t, by omega, by go_num, hmet', hkw, hsz⟩, by simp [intOf]; omega⟩
    · obtain rfl : k = K.length := by omega
      have hws : w.heap.size ≤ wr.heap.size := by omega
      clear kf1 kf2 kf4 kf5 hcell hfa2
      go_wp2_with fail
      refine (forget_any 1 _ _ b t hmet.dev).mono ?_
      rintro e w3 ⟨rfl, h3, k3⟩
      have c6 : w3.cell? ⟨b, 6, none⟩ = some (.bool t.off) := h3.cell 6
      have f6 := h3.frozen 6
      have c7 : w3.cell? ⟨b, 7, none⟩ = some (.int .i64 t.ch) := h3.cell 7
      have f7 := h3.frozen 7
      have c8 : w3.cell? ⟨b, 8, none⟩ = some (.int .i64 t.how) := h3.cell 8
      have f8 := h3.frozen 8
      have c9 : w3.cell? ⟨b, 9, none⟩ = some (.bool t.done) := h3.cell 9
      have f9 := h3.frozen 9
      go_wp2
      obtain ⟨h4, k4⟩ := h3.calm
      refine leaves_cons (f := 28) (args := #[.pointer (some ⟨b, 2, none⟩)]) (by simp) (by simp [go_sem]) ?_
      refine (unlock_dev _ .returning _ b _ h4).mono ?_
      rintro e u' w5 ⟨rfl, rfl, h5, k5, hs5⟩
      refine ⟨_, results_none rfl _ _ _, wr.heap.size, t.DL, rfl, hws, ?_, ?_⟩
      · have e : ({ t.forget wr.heap.size with off := false, ch := 0, how := 0, done := false } : St) = { s with mW := wr.heap.size, DL := t.DL, DW := .map [], off := false, ch := 0, how := 0, done := false, lasts := metTo s K fates K.length, waits := fun _ => [] } := by
          rw [← hmet.last, hmet.same]; rfl
        rw [← e]
        exact h5.more (by omega)
      · refine ((((k1.mono (fun _ _ x => .inl x)).trans (Kept.of_below (S := fun _ => False) hb2) (fun _ _ x => x.elim)).trans hkw (fun _ _ x => .inr x)).trans k3 (fun _ _ x => .inl x)).trans (k4.trans k5 (fun _ _ x => x)) (fun _ _ x => .inl x)
end Go.Proofs.Ytphnajphgiinfaa
