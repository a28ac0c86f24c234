/- Keys and ranges below a border. -/
import Derived.Test.YtaehchijeinloaaForm
import Derived.Deep.DeepCutAuto
namespace Go.Proofs.Ytaehchijeinloaa
open Go.RowKit

/-- A key whose bytes lie below a border. -/
structure KeyIn (B : Nat) (w : World) (v : Value) (ks : Key) : Prop where
  is : ∃ a c, v = .slice a ks.length c ∧ BytesAt B w a ks ∧ ks.length ≤ c ∧ (a = none → c = 0)
  short : ks.length ≤ 140737488355328
theorem KeyIn.at {B : Nat} {w : World} {v : Value} {ks : Key} (h : KeyIn B w v ks) (hB : B ≤ w.heap.size) : KeyAt w v ks := by
  obtain ⟨⟨a, c, rfl, h1, h2⟩, h3⟩ := h
  exact ⟨⟨a, c, rfl, h1.mono hB, h2⟩, h3⟩
theorem KeyAt.in {w : World} {v : Value} {ks : Key} (h : KeyAt w v ks) : KeyIn w.heap.size w v ks := ⟨h.is, h.short⟩
theorem KeyIn.below {B : Nat} {w w' : World} {v : Value} {ks : Key} (h : KeyIn B w v ks) (hb : Below B w w') : KeyIn B w' v ks := by
  obtain ⟨⟨a, c, rfl, h1, h2⟩, h3⟩ := h
  exact ⟨⟨a, c, rfl, h1.below hb, h2⟩, h3⟩
structure RangeIn (B : Nat) (w : World) (v : Value) (r : Rg) : Prop where
  is : ∃ v1 v2, v = .agg #[v1, v2, .bool r.all] ∧ KeyIn B w v1 r.lo ∧ KeyIn B w v2 r.hi
theorem RangeIn.at {B : Nat} {w : World} {v : Value} {r : Rg} (h : RangeIn B w v r) (hB : B ≤ w.heap.size) : RangeAt w v r := by
  obtain ⟨v1, v2, rfl, h1, h2⟩ := h.is
  exact ⟨v1, v2, rfl, h1.at hB, h2.at hB⟩
theorem RangeAt.in {w : World} {v : Value} {r : Rg} (h : RangeAt w v r) : RangeIn w.heap.size w v r := by
  obtain ⟨v1, v2, rfl, h1, h2⟩ := h.is
  exact ⟨v1, v2, rfl, h1.in, h2.in⟩
theorem RangeIn.below {B : Nat} {w w' : World} {v : Value} {r : Rg} (h : RangeIn B w v r) (hb : Below B w w') : RangeIn B w' v r := by
  obtain ⟨v1, v2, rfl, h1, h2⟩ := h.is
  exact ⟨v1, v2, rfl, h1.below hb, h2.below hb⟩
theorem KeyIn.form {B : Nat} {w : World} {v : Value} {ks : Key} (h : KeyIn B w v ks) : ∃ a c, v = .slice a ks.length c := by
  obtain ⟨a, c, h, _⟩ := h.is; exact ⟨a, c, h⟩

theorem KeyIn.mono {B B' : Nat} {w : World} {v : Value} {ks : Key} (h : KeyIn B w v ks) (hB : B ≤ B') : KeyIn B' w v ks := by
  obtain ⟨⟨a, c, rfl, h1, h2⟩, h3⟩ := h
  exact ⟨⟨a, c, rfl, h1.mono hB, h2⟩, h3⟩
end Go.Proofs.Ytaehchijeinloaa
