/- Behind the loss of power: what each block must show, by the law's own notes. -/
import Derived.Test.YtphnajphgiinfaaFatesInv
namespace Go.Proofs.Ytphnajphgiinfaa
open Go.RowKit Go.Maps Go.MuLone Go.Sort

theorem metTo_not (s : St) (K fates : List Int) (m : Int) (h : m ∉ K) : ∀ k, metTo s K fates k m = s.lasts m
  | 0 => rfl
  | k + 1 => by
    have ih := metTo_not s K fates m h k
    simp only [metTo]
    split
    · rename_i n f hK _
      rw [if_neg (fun e => h (by rw [e]; exact List.mem_of_getElem? hK))]
      exact ih
    · exact ih

/-- What lasts of a block of which l waited, its fate being f. -/
def afterFate (s : St) (n : Int) (f : Option Int) : Option (Option (List UInt8)) :=
  match f with
  | some f => (match fateOf (s.waits n) f with | some r => some r | none => s.lasts n)
  | none => s.lasts n

theorem metTo_at (s : St) (K fates : List Int) (hK : K.Pairwise (· < ·)) (j : Nat) (n : Int) (hj : K[j]? = some n) : ∀ k, metTo s K fates k n = if k ≤ j then s.lasts n else afterFate s n fates[j]?
  | 0 => by simp [metTo]
  | k + 1 => by
    have ih := metTo_at s K fates hK j n hj k
    simp only [metTo]
    by_cases e : k = j
    · subst e
      rw [if_pos (Nat.le_refl _)] at ih
      rw [if_neg (by omega), hj]
      unfold afterFate
      cases hf : fates[k]? with
      | none => simp only; exact ih
      | some f =>
        simp only [if_true]
        cases fateOf (s.waits n) f with
        | none => simp only; exact ih
        | some r => rfl
    · have hrest : metTo s K fates k n = if k + 1 ≤ j then s.lasts n else afterFate s n fates[j]? := by
        rw [ih]
        by_cases h1 : k ≤ j
        · rw [if_pos h1, if_pos (by omega)]
        · rw [if_neg h1, if_neg (by omega)]
      split
      · rename_i n' f hn' _
        have hne : n ≠ n' := by
          intro e2
          subst e2
          obtain ⟨h1, h1'⟩ := List.getElem?_eq_some_iff.1 hj
          obtain ⟨h2, h2'⟩ := List.getElem?_eq_some_iff.1 hn'
          rcases Nat.lt_or_gt_of_ne e with h | h
          · have := List.pairwise_iff_getElem.1 hK k j h2 h1 h; omega
          · have := List.pairwise_iff_getElem.1 hK j k h1 h2 h; omega
        rw [if_neg hne]
        exact hrest
      · exact hrest

/-- How many keys stand below n. -/
def atOf (K : List Int) (n : Int) : Nat := (K.filter (fun x => decide (x < n))).length

theorem atOf_le (K : List Int) (n : Int) : atOf K n ≤ K.length := List.length_filter_le _ _

theorem atOf_zero {K : List Int} (h : ∀ x ∈ K, 0 ≤ x) : atOf K 0 = 0 := by
  unfold atOf
  rw [List.length_eq_zero_iff, List.filter_eq_nil_iff]
  intro x hx
  have := h x hx
  simp; omega

theorem atOf_mem : ∀ {K : List Int}, K.Pairwise (· < ·) → ∀ {n : Int}, n ∈ K → K[atOf K n]? = some n
  | [], _, n, h => by cases h
  | x :: r, hp, n, h => by
    obtain ⟨h1, h2⟩ := List.pairwise_cons.1 hp
    unfold atOf
    by_cases e : n = x
    · subst e
      have : r.filter (fun y => decide (y < n)) = [] := by
        rw [List.filter_eq_nil_iff]
        intro y hy
        have := h1 y hy
        simp; omega
      simp [this]
    · have hr : n ∈ r := (List.mem_cons.1 h).resolve_left e
      have hx := h1 n hr
      have ih := atOf_mem h2 hr
      unfold atOf at ih
      simp [hx, ih]

theorem atOf_succ : ∀ {K : List Int}, K.Pairwise (· < ·) → ∀ (n : Int), atOf K (n + 1) = if n ∈ K then atOf K n + 1 else atOf K n
  | [], _, n => by simp [atOf]
  | x :: r, hp, n => by
    obtain ⟨h1, h2⟩ := List.pairwise_cons.1 hp
    have ih := atOf_succ h2 n
    unfold atOf at ih ⊢
    by_cases e : n = x
    · subst e
      have hn : n ∉ r := fun hr => by have := h1 n hr; omega
      rw [if_neg hn] at ih
      have hlt : n < n + 1 := by omega
      have hself : ¬ n < n := by omega
      simp only [List.filter_cons, decide_eq_true hlt, decide_eq_false hself, if_true, List.length_cons, List.mem_cons, true_or, ih]
      simp
    · have hiff : decide (x < n + 1) = decide (x < n) := by
        have : (x < n + 1) ↔ (x < n) := by omega
        simp [this]
      simp only [List.filter_cons, hiff, List.mem_cons]
      by_cases hx : decide (x < n) = true
      · simp only [hx, if_true, List.length_cons, ih]
        by_cases hr : n ∈ r <;> simp [hr, e]
      · have hx' : decide (x < n) = false := by simpa using hx
        simp only [hx', Bool.false_eq_true, if_false, ih]
        by_cases hr : n ∈ r <;> simp [hr, e]

/-- The law's memory beside the device, behind all writes. -/
structure Law3 (S B cm c : Nat) (w0 w : World) (b ml mw gp : Nat) (s : St) (Dl Dw : DataW Value) (Ls : Int → Option (Option (List UInt8))) (W0 : Int → List (List UInt8)) (K : List Int) : Prop where
  run : Run c b w0 w s
  calm : Calm s
  size : s.size = S
  blocks : s.blocks = B
  mapL : w.ownsMap Try.prog 3 hB ml cm Dl
  lrel : ∀ m, (Maps.has Dl (key m) = false ∧ Ls m = none) ∨ ∃ v, valAt Dl m (encB v) ∧ Ls m = some (some (List.replicate S v))
  mapW : w.ownsMap Try.prog 3 hW mw cm Dw
  apartL : ¬ Own b s ml
  apartW : ¬ Own b s mw
  rel : ∀ m, (Maps.has Dw (key m) = false ∧ W0 m = []) ∨ ∃ rv l, valAt Dw m rv ∧ l ≠ [] ∧ w.ownsRow w0.heap.size 5 1 rv l.length (l.map encB) ∧ W0 m = l.map (fun v => List.replicate S v)
  pend : ∀ (i : Nat) n, K[i]? = some n → gp < w.heap.size ∧ ¬ Own b s gp ∧ w.cell? ⟨gp, i * 2, none⟩ = some (.int .i64 n) ∧ w.cell? ⟨gp, i * 2 + 1, none⟩ = some (.int .i64 (W0 n).length)

theorem Law3.next {S B cm c c' : Nat} {w0 w w' : World} {b ml mw gp : Nat} {s s' : St} {Dl Dw : DataW Value} {Ls : Int → Option (Option (List UInt8))} {W0 : Int → List (List UInt8)} {K : List Int} (h : Law3 S B cm c w0 w b ml mw gp s Dl Dw Ls W0 K)
    (r : Run c' b w0 w' s') (hc : Calm s') (h1 : s'.size = s.size) (h2 : s'.blocks = s.blocks) (k : Kept (Own b s) w w') (ho : ∀ i, Own b s' i → Own b s i ∨ w.heap.size ≤ i) : Law3 S B cm c' w0 w' b ml mw gp s' Dl Dw Ls W0 K where
  run := r
  calm := hc
  size := by rw [h1, h.size]
  blocks := by rw [h2, h.blocks]
  mapL := map_kept h.mapL k h.apartL
  lrel := h.lrel
  mapW := map_kept h.mapW k h.apartW
  apartL := fun x => (ho ml x).elim h.apartL (fun y => by have := h.mapL.lt; omega)
  apartW := fun x => (ho mw x).elim h.apartW (fun y => by have := h.mapW.lt; omega)
  rel := fun m => (h.rel m).imp id (fun ⟨rv, l, a1, a2, a3, a4⟩ => ⟨rv, l, a1, a2, row_kept a3 k (fun g hg hown => h.run.dev.own_not_bytes hown (bytesAt_block (row_base a3 (Nat.zero_le _) : bytesAt w _ rv l) g hg)), a4⟩)
  pend := fun i n hi => by
    obtain ⟨p1, p2, p3, p4⟩ := h.pend i n hi
    exact ⟨Nat.lt_of_lt_of_le p1 k.size, fun x => (ho gp x).elim p2 (fun y => by omega), kept_cell_some k p3 p2, kept_cell_some k p4 p2⟩

theorem Law3.below {S B cm c : Nat} {w0 w w' : World} {b ml mw gp : Nat} {s : St} {Dl Dw : DataW Value} {Ls : Int → Option (Option (List UInt8))} {W0 : Int → List (List UInt8)} {K : List Int} (h : Law3 S B cm c w0 w b ml mw gp s Dl Dw Ls W0 K) (k : Below w.heap.size w w') : Law3 S B cm c w0 w' b ml mw gp s Dl Dw Ls W0 K :=
  h.next (h.run.below k) h.calm rfl rfl (Kept.of_below k) (fun _ x => .inl x)

theorem run_restart2 (c : Nat) (w0 w : World) (b : Nat) (s : St) (h : Run c b w0 w s) (hc : c ≤ 549755813888) (a : Option Addr) (fates : List Int) (cap : Nat) (hfa : fatesAt w b s a fates)
    (hml : ∀ n, (s.waits n).length ≤ 1099511627776) :
    Calls Try.prog 15 #[.pointer (some ⟨b, 0, none⟩), .slice a fates.length cap] w fun e w' => e = .returned (.tuple #[]) ∧
      ∃ s', Run (2 * c) b w0 w' s' ∧ Calm s' ∧ s'.size = s.size ∧ s'.blocks = s.blocks ∧ s'.lasts = metTo s (intKeys s.DW) fates (intKeys s.DW).length ∧ s'.waits = (fun _ => []) ∧ Kept (Own b s) w w' ∧ (∀ i, Own b s' i → Own b s i ∨ w.heap.size ≤ i) := by
  refine (restart_any c w b s h.dev hc a fates cap hfa hml).mono ?_
  rintro e w' ⟨m, D, rfl, hm, hd, k⟩
  have ho : ∀ i, Own b (s.restart fates m D) i → Own b s i ∨ w.heap.size ≤ i := by
    intro i hi
    rcases hi with e | e | e | ⟨n, v, hv, _⟩
    · exact .inl (.inl e)
    · exact .inl (.inr (.inl e))
    · exact .inr (by rw [e]; exact hm)
    · have := valAt_has hv
      simp [St.restart, Maps.has] at this
  have k' : Kept (Own b s) w w' := k.mono (fun i _ e => e.elim (fun e => .inl e) (fun e => .inr (.inl e)))
  exact ⟨rfl, _, h.next hd k' ho, ⟨rfl, rfl⟩, rfl, rfl, rfl, rfl, k', ho⟩

/-- No key waits: none is told. -/
theorem keys_none {lk : Int} {c : Nat} {w : World} {b : Nat} {s : St} (h : DevIs lk c w b s) (hw : s.waits = fun _ => []) : intKeys s.DW = [] := by
  have hm := keys_are h
  cases hk : intKeys s.DW with
  | nil => rfl
  | cons x r => exact absurd (by rw [hw]) ((hm x).1 (by rw [hk]; simp))

theorem row_slice {w : World} {base : Nat} {e : TypeId} {size : Nat} {v : Value} {n : Nat} {xs : List Value} (h : w.ownsRow base e size v n xs) : ∃ a cap, v = .slice a n cap := by
  rcases h.2 with ⟨h', h0⟩ | ⟨g, cap, cur, hv, _⟩
  · exact ⟨none, 0, by rw [h0]; exact h'⟩
  · exact ⟨_, cap, hv⟩

/-- Behind all writes: what Pending told, beside the law's maps. -/
theorem law3_start (S B c : Nat) (w0 w w' : World) (b ml mw : Nat) (s : St) (Dl Dw : DataW Value) (Ls : Int → Option (Option (List UInt8))) (h : Inv2 S B c w0 w b ml mw s Dl Dw Ls) (v : Value)
    (hrow : w'.ownsRow w.heap.size 43 2 v (intKeys s.DW).length (pendCells s (intKeys s.DW))) (r : Run c b w0 w' s) (k : Kept (fun i => i = b) w w') :
    ∃ ap capp gp, v = .slice ap (intKeys s.DW).length capp ∧ (∀ (i : Nat) n, (intKeys s.DW)[i]? = some n → ap = some ⟨gp, 0, none⟩) ∧ Law3 S B c c w0 w' b ml mw gp s Dl Dw Ls s.waits (intKeys s.DW) := by
  have hL : ∀ gp, (∀ (i : Nat) n, (intKeys s.DW)[i]? = some n → gp < w'.heap.size ∧ ¬ Own b s gp ∧ w'.cell? ⟨gp, i * 2, none⟩ = some (.int .i64 n) ∧ w'.cell? ⟨gp, i * 2 + 1, none⟩ = some (.int .i64 (s.waits n).length)) → Law3 S B c c w0 w' b ml mw gp s Dl Dw Ls s.waits (intKeys s.DW) := fun gp hp =>
    { run := r, calm := h.calm, size := h.size, blocks := h.blocks, mapL := map_kept h.mapL k (fun e => h.apartL (.inl e)), lrel := h.lrel, mapW := map_kept h.mapW k (fun e => h.apartW (.inl e)), apartL := h.apartL, apartW := h.apartW, rel := fun m => (h.rel m).imp id (fun ⟨rv, l, a1, a2, a3, a4, _⟩ => ⟨rv, l, a1, a2, row_kept a3 k (fun g hg e => h.run.dev.own_not_bytes (.inl e) (bytesAt_block (row_base a3 (Nat.zero_le _) : bytesAt w _ rv l) g hg)), a4⟩), pend := hp }
  rcases hrow.2 with ⟨h', h0⟩ | ⟨g, cap, cur, hv, hb, hg, hnc, hcm, hcs, ht⟩
  · refine ⟨none, 0, 0, by rw [h0]; exact h', fun i n hi => ?_, hL 0 (fun i n hi => ?_)⟩
    · rw [List.length_eq_zero_iff.1 h0] at hi; cases hi
    · rw [List.length_eq_zero_iff.1 h0] at hi; cases hi
  · have cellAt : ∀ (j : Nat) u, (pendCells s (intKeys s.DW))[j]? = some u → w'.cell? ⟨g, j, none⟩ = some u := by
      intro j u hj
      rw [← ht, List.getElem?_take] at hj
      split at hj
      · simpa [World.cell?, hg] using hj
      · cases hj
    have pcell : ∀ (l : List Int) (i : Nat) n, l[i]? = some n → (pendCells s l)[i * 2]? = some (.int .i64 n) ∧ (pendCells s l)[i * 2 + 1]? = some (.int .i64 (s.waits n).length) := by
      intro l
      induction l with
      | nil => intro i n hi; cases hi
      | cons x r ih =>
        intro i n hi
        cases i with
        | zero => simp at hi; subst hi; exact ⟨rfl, rfl⟩
        | succ i =>
          have := ih i n (by simpa using hi)
          have e1 : (i + 1) * 2 = i * 2 + 2 := by omega
          rw [e1]
          simpa [pendCells] using this
    refine ⟨_, cap, g, hv, fun _ _ _ => rfl, hL g (fun i n hi => ?_)⟩
    obtain ⟨p1, p2⟩ := pcell _ i n hi
    exact ⟨(Array.getElem?_eq_some_iff.1 hg).1, fun ho => by have := h.run.dev.own_lt ho; omega, cellAt _ _ p1, cellAt _ _ p2⟩

/-- What a block that nothing waits of shows. -/
def lastShows (S : Nat) (r : Option (Option (List UInt8))) : Option (List UInt8) :=
  match r with
  | none => some (List.replicate S 0)
  | some r => r

theorem shows_calm {s : St} {S : Nat} (hS : s.size = S) (hw : s.waits = fun _ => []) (m : Int) : shows s m = lastShows S (s.lasts m) := by
  unfold shows lastShows
  rw [hw, hS]
  rfl

/-- The law's note of what lasted. -/
theorem Law3.lastLook {S B cm c : Nat} {w0 w : World} {b ml mw gp : Nat} {s : St} {Dl Dw : DataW Value} {Ls : Int → Option (Option (List UInt8))} {W0 : Int → List (List UInt8)} {K : List Int} (h : Law3 S B cm c w0 w b ml mw gp s Dl Dw Ls W0 K) (m : Int) (hm : (Lit.int .i64 m).wf = true) :
    ∃ v : UInt8, (Instr.lookup 32 (.map (some ml)) (.int .i64 m) false).run Try.prog w = .ok (.int .u8 (v.toNat : Int)) w ∧ lastShows S (Ls m) = some (List.replicate S v) := by
  rcases h.lrel m with ⟨a1, a2⟩ | ⟨v, a1, a2⟩
  · exact ⟨0, lookB_none h.mapL hm a1, by rw [a2]; rfl⟩
  · exact ⟨v, lookB h.mapL hm a1, by rw [a2]; rfl⟩

theorem Law3.noRow {S B cm c : Nat} {w0 w : World} {b ml mw gp : Nat} {s : St} {Dl Dw : DataW Value} {Ls : Int → Option (Option (List UInt8))} {W0 : Int → List (List UInt8)} {K : List Int} (h : Law3 S B cm c w0 w b ml mw gp s Dl Dw Ls W0 K) (m : Int) (hm : (Lit.int .i64 m).wf = true) (h0 : W0 m = []) :
    (Instr.lookup 38 (.map (some mw)) (.int .i64 m) false).run Try.prog w = .ok (.slice none 0 0) w := by
  rcases h.rel m with ⟨a1, _⟩ | ⟨rv, l, _, a2, _, a4⟩
  · exact lookS_none h.mapW hm a1
  · rw [h0] at a4
    exact absurd (List.map_eq_nil_iff.1 a4.symm) a2

theorem Law3.rowLook {S B cm c : Nat} {w0 w : World} {b ml mw gp : Nat} {s : St} {Dl Dw : DataW Value} {Ls : Int → Option (Option (List UInt8))} {W0 : Int → List (List UInt8)} {K : List Int} (h : Law3 S B cm c w0 w b ml mw gp s Dl Dw Ls W0 K) (m : Int) (hm : (Lit.int .i64 m).wf = true) (h0 : W0 m ≠ []) :
    ∃ (gr capr : Nat) (l : List UInt8), (Instr.lookup 38 (.map (some mw)) (.int .i64 m) false).run Try.prog w = .ok (.slice (some ⟨gr, 0, none⟩) l.length capr) w ∧ W0 m = l.map (fun v => List.replicate S v) ∧ 1 ≤ l.length ∧ gr < w.heap.size ∧
      ∀ (j : Nat) c, l[j]? = some c → w.cell? ⟨gr, j, none⟩ = some (.int .u8 (c.toNat : Int)) := by
  rcases h.rel m with ⟨_, a2⟩ | ⟨rv, l, a1, a2, a3, a4⟩
  · exact absurd a2 h0
  · have hl : 1 ≤ l.length := List.length_pos_iff.2 a2
    obtain ⟨gr, capr, rfl, hg, _, hc⟩ := bytesAt_form (row_base a3 (Nat.zero_le _) : bytesAt w _ rv l) hl
    refine ⟨gr, capr, l, lookS h.mapW hm a1, a4, hl, hg, fun j c hj => ?_⟩
    have := hc j (encB c) (by simp [hj])
    simpa [encB] using this

/-- What lasts of a block behind its fate: by the law's own words. -/
theorem after_in (S : Nat) (s : St) (n : Int) (l : List UInt8) (hw : s.waits n = l.map (fun v => List.replicate S v)) (f : Int) (h1 : 1 ≤ f) (v : UInt8) (hv : l[(f - 1).toNat]? = some v) : afterFate s n (some f) = some (some (List.replicate S v)) := by
  unfold afterFate fateOf
  simp only [if_pos h1, hw, List.getElem?_map, hv, Option.map_some]
theorem after_bad (S : Nat) (s : St) (n : Int) (l : List UInt8) (hw : s.waits n = l.map (fun v => List.replicate S v)) (f : Int) (hf : f = (l.length : Int) + 1) : afterFate s n (some f) = some none := by
  unfold afterFate fateOf
  have h1 : 1 ≤ f := by omega
  have h2 : l[(f - 1).toNat]? = none := by rw [List.getElem?_eq_none_iff]; omega
  simp only [if_pos h1, hw, List.getElem?_map, h2, Option.map_none, List.length_map]
  rw [if_pos hf]
theorem after_else (S : Nat) (s : St) (n : Int) (l : List UInt8) (hw : s.waits n = l.map (fun v => List.replicate S v)) (f : Int) (hf : f < 1 ∨ (l.length : Int) + 1 < f) : afterFate s n (some f) = s.lasts n := by
  unfold afterFate fateOf
  by_cases h1 : 1 ≤ f
  · have h2 : l[(f - 1).toNat]? = none := by rw [List.getElem?_eq_none_iff]; omega
    have h3 : ¬ f = (l.length : Int) + 1 := by omega
    simp only [if_pos h1, hw, List.getElem?_map, h2, Option.map_none, List.length_map]
    rw [if_neg h3]
  · simp only [if_neg h1]
end Go.Proofs.Ytphnajphgiinfaa
