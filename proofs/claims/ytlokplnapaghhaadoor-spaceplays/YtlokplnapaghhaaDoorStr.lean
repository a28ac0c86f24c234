/- Bytes as strings; bytes wherever they lie. -/
import Derived.Test.YtlokplnapaghhaaDoorRuns
import Derived.Laws.IdiomStrings
namespace Go.Proofs.YtlokplnapaghhaaDoor
open Go.RowKit

/-- The bytes lie there, in blocks below B. -/
def BytesAt (B : Nat) (w : World) (a : Option Addr) (bs : List UInt8) : Prop :=
  ∀ (j : Nat) c, bs[j]? = some c → ∃ g off, a = some ⟨g, off, none⟩ ∧ g < B ∧ w.cell? ⟨g, off + j, none⟩ = some (.int .u8 (c.toNat : Int))
theorem BytesAt.below {B : Nat} {w w' : World} {a : Option Addr} {bs : List UInt8} (h : BytesAt B w a bs) (hb : Below B w w') : BytesAt B w' a bs := fun j c hj => by
  obtain ⟨g, off, h1, h2, h3⟩ := h j c hj
  exact ⟨g, off, h1, h2, by rw [hb.cell h2]; exact h3⟩
theorem BytesAt.mono {B B' : Nat} {w : World} {a : Option Addr} {bs : List UInt8} (h : BytesAt B w a bs) (hB : B ≤ B') : BytesAt B' w a bs := fun j c hj => by
  obtain ⟨g, off, h1, h2, h3⟩ := h j c hj
  exact ⟨g, off, h1, by omega, h3⟩
theorem BytesAt.here {w w' : World} {a : Option Addr} {bs : List UInt8} (h : BytesAt w.heap.size w a bs) (hb : Below w.heap.size w w') : BytesAt w'.heap.size w' a bs := (h.below hb).mono hb.size
theorem newB_at {base : Nat} {w : World} {v : Value} {bs : List UInt8} (h : NewB base w v bs) : ∃ a c, v = .slice a bs.length c ∧ BytesAt w.heap.size w a bs := by
  rcases own_row h with ⟨rfl, h0⟩ | ⟨g, c, rfl, _, hg, hc⟩
  · refine ⟨none, 0, by rw [h0], fun j c hj => ?_⟩
    have := (List.getElem?_eq_some_iff.1 hj).1
    omega
  · refine ⟨_, c, rfl, fun j x hj => ⟨g, 0, rfl, hg, ?_⟩⟩
    rw [Nat.zero_add]
    exact hc j _ (by rw [List.getElem?_map, hj]; rfl)
/-- Bytes as a string. -/
def strB (bs : List UInt8) : ByteArray := ⟨bs.toArray⟩
theorem strB_nums (bs : List UInt8) : strOfNums (bs.map fun c => (c.toNat : Int)) = strB bs := by
  have e : (bs.map fun c => (c.toNat : Int)).map (fun n => UInt8.ofNat n.toNat) = bs := by
    rw [List.map_map]
    refine (List.map_congr_left (g := id) fun c _ => ?_).trans (List.map_id _)
    simp
  rw [strOfNums, e]
  rfl
theorem strB_inj {a b : List UInt8} (h : strB a = strB b) : a = b := by
  have := congrArg (fun x => x.data.toList) h
  simpa [strB] using this
theorem strB_eq (a b : List UInt8) : ((strB a).toList == (strB b).toList) = decide (a = b) := by
  by_cases h : a = b
  · subst h; simp
  · rw [beq_eq_false_iff_ne.2 ?_]
    · simp [h]
    · rw [ByteArray.toList_eq, ByteArray.toList_eq]
      intro e
      exact h (by simpa [strB] using e)
theorem conv_any {B : Nat} {w : World} {a : Option Addr} {bs : List UInt8} (n cap : Nat) (hb : BytesAt B w a bs) (hn : bs.length = n) : (convert 37 9 (.slice a n cap)).run Tryd.prog w = .ok (.string (strB bs)) w := by
  cases a with
  | none =>
    have h0 : bs = [] := by
      cases bs with
      | nil => rfl
      | cons b r => obtain ⟨_, _, e, _⟩ := hb 0 b rfl; cases e
    subst h0
    exact run_convert_bytes_nil w 37 5 Tryd.underlying37 Tryd.underlying5 n cap 9 Tryd.underlying9
  | some ad =>
    have hl : (loadCells ad n).run Tryd.prog w = .ok ((bs.map fun c => (c.toNat : Int)).map (Value.int .u8)).toArray w := by
      have := run_loadCells_list (P := Tryd.prog) w ad ((bs.map fun c => (c.toNat : Int)).map (Value.int .u8)) (fun j v hj => by
        rw [List.map_map, List.getElem?_map] at hj
        cases e : bs[j]? with
        | none => rw [e] at hj; cases hj
        | some c =>
          rw [e] at hj
          obtain ⟨g, off, e1, _, hc⟩ := hb j c e
          cases e1
          rw [add_at, hc]
          simpa using hj)
      simpa [hn] using this
    rw [run_convert_bytes_string w 37 9 5 _ n cap Tryd.underlying37 Tryd.underlying5 Tryd.underlying9, run_bytesToString w _ n cap _ hl, foldl_push_bytes, ← strB_nums]
    simp [strOfNums, ByteArray.empty, ByteArray.emptyWithCapacity]
    rfl
theorem conv_new {base : Nat} {w : World} {v : Value} {bs : List UInt8} (h : NewB base w v bs) : (convert 37 9 v).run Tryd.prog w = .ok (.string (strB bs)) w := by
  obtain ⟨a, c, rfl, hb⟩ := newB_at h
  exact conv_any _ _ hb rfl
end Go.Proofs.YtlokplnapaghhaaDoor
