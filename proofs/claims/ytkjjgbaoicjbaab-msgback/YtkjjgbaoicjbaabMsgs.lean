/- Messages in memory. -/
import Derived.Test.YtkjjgbaoicjbaabNext
import Derived.Test.YtkjjgbaoicjbaabSettle
import Derived.Deep.CondSized
import Derived.Lib.SliceRun
namespace Go.Proofs.Ytkjjgbaoicjbaab
open Go.RowKit

theorem KeyIn.here {w w' : World} {v : Value} {ks : Key} (h : KeyIn w.heap.size w v ks) (hb : Below w.heap.size w w') : KeyIn w'.heap.size w' v ks := (h.below hb).mono hb.size
/-- A message in a row: its three slices, and what it is. -/
structure Mt where
  v1 : Value
  v2 : Value
  v3 : Value
  m : Ms
  deriving Inhabited
def Mt.cells (x : Mt) : List Value := [.int .u64 (x.m.st : Int), .int .i64 x.m.kd, x.v1, x.v2, x.v3]
def Mt.val (x : Mt) : Value := .agg #[.int .u64 (x.m.st : Int), .int .i64 x.m.kd, x.v1, x.v2, x.v3]
structure Mt.Ok (B : Nat) (w : World) (x : Mt) : Prop where
  lo : KeyIn B w x.v1 x.m.lo
  hi : KeyIn B w x.v2 x.m.hi
  va : KeyIn B w x.v3 x.m.va
  st : x.m.st < 18446744073709551616
  kd : -9223372036854775808 ≤ x.m.kd ∧ x.m.kd ≤ 9223372036854775807
theorem Mt.Ok.below {B : Nat} {w w' : World} {e : Mt} (h : e.Ok B w) (hb : Below B w w') : e.Ok B w' := ⟨h.lo.below hb, h.hi.below hb, h.va.below hb, h.st, h.kd⟩
theorem Mt.Ok.mono {B B' : Nat} {w : World} {e : Mt} (h : e.Ok B w) (hB : B ≤ B') : e.Ok B' w := ⟨h.lo.mono hB, h.hi.mono hB, h.va.mono hB, h.st, h.kd⟩
theorem Mt.Ok.here {w w' : World} {e : Mt} (h : e.Ok w.heap.size w) (hb : Below w.heap.size w w') : e.Ok w'.heap.size w' := (h.below hb).mono hb.size
def flatM (L : List Mt) : List Value := L.flatMap Mt.cells
theorem flatM_cons (e : Mt) (L : List Mt) : flatM (e :: L) = .int .u64 (e.m.st : Int) :: .int .i64 e.m.kd :: e.v1 :: e.v2 :: e.v3 :: flatM L := rfl
theorem flatM_append (L M : List Mt) : flatM (L ++ M) = flatM L ++ flatM M := List.flatMap_append
theorem flatM_length (L : List Mt) : (flatM L).length = L.length * 5 := by
  induction L with
  | nil => rfl
  | cons e L ih => rw [flatM_cons]; simp [ih]; omega
theorem flatM_get (L : List Mt) (i : Nat) (e : Mt) (h : L[i]? = some e) : (flatM L)[i * 5]? = some (.int .u64 (e.m.st : Int)) ∧ (flatM L)[i * 5 + 1]? = some (.int .i64 e.m.kd) ∧ (flatM L)[i * 5 + 2]? = some e.v1 ∧ (flatM L)[i * 5 + 3]? = some e.v2 ∧ (flatM L)[i * 5 + 4]? = some e.v3 := by
  induction L generalizing i with
  | nil => simp at h
  | cons x L ih =>
    rw [flatM_cons]
    cases i with
    | zero => simp at h; subst h; exact ⟨rfl, rfl, rfl, rfl, rfl⟩
    | succ i =>
      have := ih i (by simpa using h)
      rw [show (i + 1) * 5 = i * 5 + 1 + 1 + 1 + 1 + 1 by omega]
      rw [show i * 5 + 1 + 1 + 1 + 1 + 1 + 1 = i * 5 + 1 + 1 + 1 + 1 + 1 + 1 from rfl, show i * 5 + 1 + 1 + 1 + 1 + 1 + 2 = i * 5 + 2 + 1 + 1 + 1 + 1 + 1 by omega, show i * 5 + 1 + 1 + 1 + 1 + 1 + 3 = i * 5 + 3 + 1 + 1 + 1 + 1 + 1 by omega, show i * 5 + 1 + 1 + 1 + 1 + 1 + 4 = i * 5 + 4 + 1 + 1 + 1 + 1 + 1 by omega]
      simp only [List.getElem?_cons_succ]
      exact this
theorem Mt.Ok.one {B : Nat} {w : World} {x : Mt} (h : x.Ok B w) : x.v1.oneCell' = true ∧ x.v2.oneCell' = true ∧ x.v3.oneCell' = true := by
  obtain ⟨a, c, e1⟩ := h.lo.form
  obtain ⟨a', c', e2⟩ := h.hi.form
  obtain ⟨a'', c'', e3⟩ := h.va.form
  rw [e1, e2, e3]; exact ⟨rfl, rfl, rfl⟩
/-- A list of messages. -/
structure MsgsAt (B : Nat) (w : World) (v : Value) (L : List Mt) : Prop where
  is : ∃ a c, v = .slice a L.length c ∧ L.length ≤ c ∧ (a = none → c = 0) ∧ ∀ j u, (flatM L)[j]? = some u → ∃ g off, a = some ⟨g, off, none⟩ ∧ g < B ∧ w.cell? ⟨g, off + j, none⟩ = some u
  short : L.length * 88 ≤ 140737488355328
  ok : ∀ e ∈ L, e.Ok B w
theorem MsgsAt.below {B : Nat} {w w' : World} {v : Value} {L : List Mt} (h : MsgsAt B w v L) (hb : Below B w w') : MsgsAt B w' v L := by
  obtain ⟨⟨a, c, h1, h2, h3, h4⟩, h5, h6⟩ := h
  refine ⟨⟨a, c, h1, h2, h3, fun j u hj => ?_⟩, h5, fun e he => (h6 e he).below hb⟩
  obtain ⟨g, off, e1, e2, e3⟩ := h4 j u hj
  exact ⟨g, off, e1, e2, by rw [hb.cell e2]; exact e3⟩
theorem MsgsAt.mono {B B' : Nat} {w : World} {v : Value} {L : List Mt} (h : MsgsAt B w v L) (hB : B ≤ B') : MsgsAt B' w v L := by
  obtain ⟨⟨a, c, h1, h2, h3, h4⟩, h5, h6⟩ := h
  refine ⟨⟨a, c, h1, h2, h3, fun j u hj => ?_⟩, h5, fun e he => (h6 e he).mono hB⟩
  obtain ⟨g, off, e1, e2, e3⟩ := h4 j u hj
  exact ⟨g, off, e1, by omega, e3⟩
theorem MsgsAt.here {w w' : World} {v : Value} {L : List Mt} (h : MsgsAt w.heap.size w v L) (hb : Below w.heap.size w w') : MsgsAt w'.heap.size w' v L := (h.below hb).mono hb.size
theorem MsgsAt.form {B : Nat} {w : World} {v : Value} {L : List Mt} (h : MsgsAt B w v L) : ∃ a c, v = .slice a L.length c := by
  obtain ⟨⟨a, c, h1, _⟩, _⟩ := h; exact ⟨a, c, h1⟩
/-- The cells of a message of a list. -/
structure MCells (w : World) (g o : Nat) (e : Mt) : Prop where
  c0 : w.cell? ⟨g, o, none⟩ = some (.int .u64 (e.m.st : Int))
  c1 : w.cell? ⟨g, o + 1, none⟩ = some (.int .i64 e.m.kd)
  c2 : w.cell? ⟨g, o + 2, none⟩ = some e.v1
  c3 : w.cell? ⟨g, o + 3, none⟩ = some e.v2
  c4 : w.cell? ⟨g, o + 4, none⟩ = some e.v3
theorem MsgsAt.cells {B : Nat} {w : World} {v : Value} {L : List Mt} (h : MsgsAt B w v L) (i : Nat) (e : Mt) (hi : L[i]? = some e) :
    ∃ g off c, v = .slice (some ⟨g, off, none⟩) L.length c ∧ MCells w g (off + i * 5) e := by
  obtain ⟨⟨a, c, h1, h2, h3, h4⟩, _, _⟩ := h
  obtain ⟨f0, f1, f2, f3, f4⟩ := flatM_get L i e hi
  obtain ⟨g, off, rfl, _, k0⟩ := h4 _ _ f0
  obtain ⟨_, _, e1, _, k1⟩ := h4 _ _ f1
  cases e1
  obtain ⟨_, _, e1, _, k2⟩ := h4 _ _ f2
  cases e1
  obtain ⟨_, _, e1, _, k3⟩ := h4 _ _ f3
  cases e1
  obtain ⟨_, _, e1, _, k4⟩ := h4 _ _ f4
  cases e1
  exact ⟨g, off, c, h1, k0, by rw [Nat.add_assoc]; exact k1, by rw [Nat.add_assoc]; exact k2, by rw [Nat.add_assoc]; exact k3, by rw [Nat.add_assoc]; exact k4⟩
theorem MsgsAt.nil (B : Nat) (w : World) : MsgsAt B w (.slice none 0 0) [] := ⟨⟨none, 0, rfl, Nat.le_refl _, fun _ => rfl, fun j u hj => by simp [flatM] at hj⟩, by decide, fun e he => by simp at he⟩
def msOf (L : List Mt) : List Ms := L.map Mt.m
theorem msOf_get {L : List Mt} {i : Nat} {e : Mt} (h : L[i]? = some e) : (msOf L)[i]? = some e.m := by simp [msOf, h]
theorem msOf_length (L : List Mt) : (msOf L).length = L.length := by simp [msOf]

/-- What a message does, as the program has it. -/
def deedV (x : Mt) : Value :=
  if x.m.kd = 1 then .iface 76 (.agg #[x.v1, x.v3]) else if x.m.kd = 2 then .iface 78 (.agg #[x.v1])
  else if x.m.kd = 3 then .iface 80 (.agg #[x.v1, x.v2]) else .iface 102 (.agg #[])
theorem int_ne {a b : Int} (h : a ≠ b) : (a == b) = false := by rw [beq_eq_false_iff_ne]; exact h

set_option maxHeartbeats 800000 in
set_option maxRecDepth 100000 in
theorem deedOf_any {w : World} {x : Mt} (h : x.Ok w.heap.size w) :
    Calls Try.prog 31 #[x.val] w fun r w' => r = .returned (deedV x) ∧ Below w.heap.size w w' := by
  obtain ⟨v1, v2, v3, st, kd, lo, hi, va⟩ := x
  obtain ⟨a1, c1, e1⟩ := h.lo.form
  obtain ⟨a2, c2, e2⟩ := h.hi.form
  obtain ⟨a3, c3, e3⟩ := h.va.form
  simp only at e1 e2 e3
  subst e1 e2 e3
  unfold Mt.val deedV
  simp only
  have HB0 : Hid (Below w.heap.size w (w.alloc (.cells #[.int .u64 (st : Int), .int .i64 kd, .slice a1 lo.length c1, .slice a2 hi.length c2, .slice a3 va.length c3] 38))) := below_new _ _
  clear h
  by_cases h1 : kd = 1
  · subst h1
    go_enter Try.func31, Try.ntmps31
    go_wp2
    go_ret
    exact ⟨rfl, HB0.out⟩
  · rw [if_neg h1]
    have z1 := int_ne h1
    by_cases h2 : kd = 2
    · subst h2
      go_enter Try.func31, Try.ntmps31
      go_wp2
      go_ret
      exact ⟨rfl, HB0.out⟩
    · rw [if_neg h2]
      have z2 := int_ne h2
      by_cases h3 : kd = 3
      · subst h3
        go_enter Try.func31, Try.ntmps31
        go_wp2
        go_ret
        exact ⟨rfl, HB0.out⟩
      · rw [if_neg h3]
        have z3 := int_ne h3
        clear h1 h2 h3
        go_enter Try.func31, Try.ntmps31
        go_wp2
        go_ret
        exact ⟨rfl, HB0.out⟩
end Go.Proofs.Ytkjjgbaoicjbaab
