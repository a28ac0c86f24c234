/- One step of any kind; what stands between steps. -/
import Derived.Test.YtcfmcakdgamdmaaStepE
import Derived.Test.YtcfmcakdgamdmaaStepF
import Derived.Test.YtcfmcakdgamdmaaStepG
import Derived.Test.YtcfmcakdgamdmaaStepH
import Derived.Test.YtcfmcakdgamdmaaEndsW
namespace Go.Proofs.Ytcfmcakdgamdmaa
open Go.RowKit

/-- All that stands between steps. -/
structure Al (B : Nat) (w : World) (W m K p x : Nat) : Prop where
  is : ∃ cs rs va vb LS P Q X Y, Wst B m w W cs rs va vb LS LS P Q X Y ∧ P.map (·.2) = Q.map (·.2) ∧ X.map (·.2) = Y.map (·.2) ∧ (∀ j, (LS j).length ≤ K) ∧ P.length ≤ p ∧ X.length ≤ x ∧ (∀ q ∈ P, q.2.length ≤ K) ∧ (∀ q ∈ X, q.2.length ≤ K)
theorem Al.wide {B : Nat} {w : World} {W m K p x K' p' x' : Nat} (h : Al B w W m K p x) (h1 : K ≤ K') (h2 : p ≤ p') (h3 : x ≤ x') : Al B w W m K' p' x' := by
  obtain ⟨cs, rs, va, vb, LS, P, Q, X, Y, a, b, c, d, e, f, g, i⟩ := h
  exact ⟨cs, rs, va, vb, LS, P, Q, X, Y, a, b, c, fun j => Nat.le_trans (d j) h1, Nat.le_trans e h2, Nat.le_trans f h3, fun q hq => Nat.le_trans (g q hq) h1, fun q hq => Nat.le_trans (i q hq) h1⟩
theorem Al.cells {B : Nat} {w : World} {W m K p x : Nat} (h : Al B w W m K p x) : (∃ a c, w.cell? ⟨W, 0, none⟩ = some (.slice a m c)) ∧ ∃ z, w.cell? ⟨W, 6, none⟩ = some (.int .i64 z) := by
  obtain ⟨cs, rs, va, vb, LS, P, Q, X, Y, ⟨vl, vr, vp, vq, vx, vy, n, hR, hC⟩, _⟩ := h
  have hl := hR.rl
  rw [ptrs_length] at hl
  obtain ⟨a, c, rfl⟩ := own_slice hl
  exact ⟨⟨a, c, by rw [row_cell hR.head]; rfl⟩, n, by rw [row_cell hR.head]; rfl⟩
theorem After.al {B m : Nat} {w w' : World} {W : Nat} {cs rs : Nat → Nat} {LS : Nat → List Lf} {P : List (Value × List Int)} {X : List (Value × List Lf)} {dL dP dX K p x : Nat} (h : After B m w W cs rs LS P X w' dL dP dX K) (hK : ∀ j, (LS j).length ≤ K) (hp : P.length ≤ p) (hx : X.length ≤ x) (hP : ∀ q ∈ P, q.2.length ≤ K) (hX : ∀ q ∈ X, q.2.length ≤ K) : Al B w' W m (K + dL) (p + dP) (x + dX) := by
  obtain ⟨va, vb, LS', P', Q', X', Y', a, b, c, d, e, f, g, i⟩ := h.is
  refine ⟨cs, rs, va, vb, LS', P', Q', X', Y', a, b, c, fun j => ?_, by omega, by omega, fun q hq => ?_, fun q hq => ?_⟩
  · have := d j; have := hK j; omega
  · rcases g q hq with h | h
    · have := hP q h; omega
    · omega
  · rcases i q hq with h | h
    · have := hX q h; omega
    · omega
/-- An empty World. -/
theorem al_new {B : Nat} {w : World} {W : Nat} (hW : w.heap[W]? = some (.cells #[.slice none 0 0, .slice none 0 0, .slice none 0 0, .slice none 0 0, .slice none 0 0, .slice none 0 0, .int .i64 0] 30 (0, 0))) (hB : B ≤ W) : Wst B 0 w W (fun _ => 0) (fun _ => 0) (fun _ => .slice none 0 0) (fun _ => .slice none 0 0) (fun _ => []) (fun _ => []) [] [] [] [] := by
  have hlt : W < w.heap.size := (Array.getElem?_eq_some_iff.1 hW).1
  have no : ∀ (v : Value) k, v = .slice none 0 0 → v.ownBlock = some k → False := fun v k e h => by subst e; cases h
  refine ⟨_, _, _, _, _, _, 0, ⟨hW, World.ownsRow_nil _ _ _ _, World.ownsRow_nil _ _ _ _, World.ownsRow_nil _ _ _ _, World.ownsRow_nil _ _ _ _, World.ownsRow_nil _ _ _ _, World.ownsRow_nil _ _ _ _, fun k e => (no _ k rfl e).elim, fun k e => (no _ k rfl e).elim, hB⟩, ⟨fun i h => by omega, fun i h => by omega, fun i j h => by omega, fun i j h => by omega, fun i j k h => by omega, fun i j k h => by omega, fun i k h => by omega, fun p h => (by cases h), fun p h => (by cases h), fun p h => (by cases h), fun p h => (by cases h), List.Pairwise.nil, fun p h => (by cases h), List.Pairwise.nil, fun p h => (by cases h), by omega⟩⟩
/-- The first list. -/
theorem first_any {B : Nat} {w : World} {W : Nat} (hW : w.heap[W]? = some (.cells #[.slice none 0 0, .slice none 0 0, .slice none 0 0, .slice none 0 0, .slice none 0 0, .slice none 0 0, .int .i64 0] 30 (0, 0))) (hB : B ≤ W) :
    Calls Try.prog 8 #[ptr W, .agg #[.int .i64 1, .int .i64 0, .int .i64 0, .int .u64 0, .int .u64 0, .slice none 0 0, .int .u64 0]] w fun r w' => r = .returned (.bool true) ∧ Al B w' W 1 0 0 0 ∧ Below B w w' := by
  refine (step_new (x := ⟨0, 0, 0⟩) (on := 0) (sn := 0) (al_new hW hB) (by decide) ⟨none, 0, 0, rfl⟩).mono ?_
  rintro r w' ⟨rfl, cs, rs, va, vb, h1, h2⟩
  refine ⟨rfl, ⟨cs, rs, va, vb, _, _, _, _, _, h1, rfl, rfl, fun j => ?_, Nat.le_refl _, Nat.le_refl _, fun q h => (by cases h), fun q h => (by cases h)⟩, h2⟩
  by_cases e : j = 0
  · subst e; rw [at_same]; exact Nat.le_refl _
  · rw [at_other e]; exact Nat.le_refl _
theorem step_any {B : Nat} {w : World} {W m K p x : Nat} {kd on sn : Int} {l : Lf} {sv : Value} {S : List Int} (h : Al B w W m K p x) (hm : 0 < m) (ho : (Lit.int .i64 on).wf = true) (hS : SnAt B w sv S) (hmb : m ≤ 1954687338269) (hKb : K + 1 ≤ 1954687338269) (hp : p + 2 ≤ 4398046511104) (hx : x + 2 ≤ 4398046511104) :
    Calls Try.prog 8 #[ptr W, .agg #[.int .i64 kd, .int .i64 on, .int .i64 l.p, .int .u64 l.b, .int .u64 l.d, sv, .int .u64 sn]] w fun r w' => r = .returned (.bool true) ∧ (∃ m' x', Al B w' W m' (K + 1) (p + 2) x' ∧ 0 < m' ∧ x' + 2 * m' ≤ x + 2 * m + 2) ∧ Below B w w' := by
  obtain ⟨cs, rs, va, vb, LS, P, Q, X, Y, a, b, c, d, e, f, g, i⟩ := h
  have hsv : ∃ a n c, sv = .slice a n c := by obtain ⟨a, c, e, _⟩ := hS.is; exact ⟨a, _, c, e⟩
  have fin : ∀ {w' : World} {dL dP dX : Nat}, dL ≤ 1 → dP ≤ 2 → dX ≤ 2 → After B m w W cs rs LS P X w' dL dP dX K → (∃ m' x', Al B w' W m' (K + 1) (p + 2) x' ∧ 0 < m' ∧ x' + 2 * m' ≤ x + 2 * m + 2) ∧ Below B w w' := fun h1 h2 h3 ha =>
    ⟨⟨m, x + _, (ha.al d e f g i).wide (by omega) (by omega) (Nat.le_refl _), hm, by omega⟩, ha.low⟩
  by_cases k1 : kd = 1
  · subst k1
    refine (step_new a hmb hsv).mono ?_
    rintro r w' ⟨rfl, cs', rs', va', vb', h1, h2⟩
    refine ⟨rfl, ⟨m + 1, x, ⟨cs', rs', va', vb', _, _, _, _, _, h1, b, c, fun j => ?_, by omega, f, fun q hq => Nat.le_succ_of_le (g q hq), fun q hq => Nat.le_succ_of_le (i q hq)⟩, by omega, by omega⟩, h2⟩
    by_cases e' : j = m
    · subst e'; rw [at_same]; exact Nat.zero_le _
    · rw [at_other e']; exact Nat.le_succ_of_le (d j)
  by_cases k2 : kd = 2
  · subst k2
    exact (step_put a hm hmb ho hsv b c d hKb).mono fun r w' ⟨h1, h2⟩ => ⟨h1, fin (by omega) (by omega) (by omega) h2⟩
  by_cases k3 : kd = 3
  · subst k3
    exact (step_free a hm hmb ho hsv b c d hKb hS (by omega)).mono fun r w' ⟨h1, h2⟩ => ⟨h1, fin (by omega) (by omega) (by omega) h2⟩
  by_cases k4 : kd = 4
  · subst k4
    exact (step_held a hm hmb ho hsv b c d hKb (by omega)).mono fun r w' ⟨h1, h2⟩ => ⟨h1, fin (by omega) (by omega) (by omega) h2⟩
  by_cases k5 : kd = 5
  · subst k5
    exact (step_lives a hm hmb ho hsv b c d hKb (by omega)).mono fun r w' ⟨h1, h2⟩ => ⟨h1, fin (by omega) (by omega) (by omega) h2⟩
  exact (step_other a hm hmb ho hsv b c d hKb (by omega)).mono fun r w' ⟨h1, h2⟩ => ⟨h1, fin (by omega) (by omega) (by omega) h2⟩
/-- In the end each list once more. -/
theorem last_any {B : Nat} {w : World} {W m K p x : Nat} {on : Int} (h : Al B w W m K p x) (hm : 0 < m) (ho : (Lit.int .i64 on).wf = true) (hmb : m ≤ 1954687338269) (hKb : K + 1 ≤ 1954687338269) (hx : x + 2 ≤ 4398046511104) :
    Calls Try.prog 8 #[ptr W, .agg #[.int .i64 5, .int .i64 on, .int .i64 0, .int .u64 0, .int .u64 0, .slice none 0 0, .int .u64 0]] w fun r w' => r = .returned (.bool true) ∧ Al B w' W m K p (x + 2) ∧ Below B w w' := by
  obtain ⟨cs, rs, va, vb, LS, P, Q, X, Y, a, b, c, d, e, f, g, i⟩ := h
  exact (step_lives (x := ⟨0, 0, 0⟩) (sn := 0) a hm hmb ho ⟨none, 0, 0, rfl⟩ b c d hKb (by omega)).mono fun r w' ⟨h1, h2⟩ => ⟨h1, (h2.al d e f g i).wide (Nat.le_refl _) (Nat.le_refl _) (Nat.le_refl _), h2.low⟩
theorem ends_al {B : Nat} {w : World} {W m K p x : Nat} (h : Al B w W m K p x) (hp : p ≤ 4398046511104) (hx : x ≤ 4398046511104) (hK : K ≤ 1954687338269) :
    Calls Try.prog 9 #[ptr W] w fun e w' => e = .returned (.bool true) ∧ Below B w w' := by
  obtain ⟨cs, rs, va, vb, LS, P, Q, X, Y, a, b, c, d, e, f, g, i⟩ := h
  obtain ⟨vl, vr, vp, vq, vx, vy, n, he⟩ := a.en b c
  refine ends_any (K := K) ⟨⟨_, _, _, _, he, fun j hj => ?_, fun j hj => ?_⟩, Below.refl _ _⟩ (by omega) (by omega) hK
  · rw [List.getElem?_eq_getElem hj]
    exact g _ (List.getElem_mem hj)
  · rw [List.getElem?_eq_getElem hj]
    exact i _ (List.getElem_mem hj)
end Go.Proofs.Ytcfmcakdgamdmaa
