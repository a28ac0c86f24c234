/- The law's own functions: lent, kept, turned. -/
import Derived.Test.YtphohkchffcjeaaRef2
namespace Go.Proofs.Ytphohkchffcjeaa
open Go.RowKit

/-- A row of bytes, just so long. -/
structure BRow (w : World) (g : Nat) (bs : Key) : Prop where
  row : w.heap[g]? = some (.cells (bs.map encB).toArray 5 (0, 0))
theorem BRow.lt {w : World} {g : Nat} {bs : Key} (h : BRow w g bs) : g < w.heap.size := (Array.getElem?_eq_some_iff.1 h.row).1
theorem BRow.cell {w : World} {g : Nat} {bs : Key} (h : BRow w g bs) (j : Nat) (c : UInt8) (hj : bs[j]? = some c) : w.cell? ⟨g, j, none⟩ = some (.int .u8 (c.toNat : Int)) := by
  rw [row_cell h.row]
  simp [hj, encB]
theorem BRow.frozen {w : World} {g : Nat} {bs : Key} (h : BRow w g bs) (j : Nat) : w.frozen? ⟨g, j, none⟩ = false := row_frozen h.row _
theorem BRow.set {w : World} {g : Nat} {bs : Key} (h : BRow w g bs) (j : Nat) (c : UInt8) : BRow (w.setCell ⟨g, j, none⟩ (.int .u8 (c.toNat : Int))) g (bs.set j c) := by
  refine ⟨?_⟩
  rw [heap_set_same _ h.row]
  simp [List.map_set, encB]
theorem BRow.here {w w' : World} {g : Nat} {bs : Key} (h : BRow w g bs) (hb : Below w.heap.size w w') : BRow w' g bs := ⟨by rw [hb.block g h.lt]; exact h.row⟩
theorem BRow.same {w w' : World} {g : Nat} {bs : Key} (h : BRow w g bs) (hb : w'.heap[g]? = w.heap[g]?) : BRow w' g bs := ⟨by rw [hb]; exact h.row⟩
/-- Its beginning is a key. -/
theorem BRow.key {w : World} {g : Nat} {k m : Key} (h : BRow w g (k ++ m)) (c : Nat) (hc : k.length ≤ c) (hs : k.length ≤ 140737488355328) : KeyAt w (.slice (some ⟨g, 0, none⟩) k.length c) k :=
  ⟨⟨_, c, rfl, fun j x hj => ⟨g, 0, rfl, h.lt, by
    rw [Nat.zero_add]
    exact h.cell j x (by rw [List.getElem?_append_left (List.getElem?_eq_some_iff.1 hj).1]; exact hj)⟩, hc, fun h => by cases h⟩, hs⟩

theorem app_src {B : Nat} {w : World} {a : Option Addr} {bs : Key} (hb : BytesAt B w a bs) (ad : Addr) (he : a = some ad) (j : Nat) (u : Value) (hj : (bs.map encB)[j]? = some u) : w.cell? (ad.add j) = some u := by
  rw [List.getElem?_map] at hj
  cases e : bs[j]? with
  | none => rw [e] at hj; cases hj
  | some b =>
    rw [e] at hj
    cases hj
    obtain ⟨g', off', e1, _, hcell⟩ := hb j b e
    rw [he] at e1
    cases e1
    rw [add_at]
    exact hcell
theorem marks_src (W : World) (j : Nat) (u : Value) (hj : (([251, 252] : Key).map encB)[j]? = some u) : (W.alloc (.cells #[.int .u8 251, .int .u8 252] 5)).cell? ((⟨W.heap.size, 0, none⟩ : Addr).add j) = some u := by
  rw [add_at, Nat.zero_add, row_cell (heap_alloc_last W _)]
  simpa [encB] using hj

set_option maxHeartbeats 800000 in
set_option maxRecDepth 100000 in
theorem lent_any {w : World} {v : Value} {k : Key} (h : KeyAt w v k) (hk : k.length ≤ 140737488351232) :
    Calls Try.prog 10 #[v] w fun e w' => e = .returned (.slice (some ⟨w.heap.size, 0, none⟩) k.length (k.length + 2)) ∧ BRow w' w.heap.size (k ++ [251, 252]) ∧ Below w.heap.size w w' := by
  obtain ⟨i0, hi, hz0, hz1, hz2⟩ := info5'
  obtain ⟨⟨a, c, rfl, hb, hx, hn⟩, hl⟩ := h
  have HB : Hid (BytesAt w.heap.size w a k) := hb
  have HN : Hid (a = none → k.length = 0 ∧ c = 0) := fun h => by
    subst h
    refine ⟨?_, hn rfl⟩
    cases k with
    | nil => rfl
    | cons b r => obtain ⟨_, _, e, _⟩ := hb 0 b rfl; cases e
  have hkc : ((k.length : Int)) ≤ ((k.length + 2 : Nat) : Int) := by omega
  clear hb hn
  go_enter Try.func10, Try.ntmps10
  go_wp2_with (first
    | (at_make; refine wpList_make_own _ rfl _ _ 23 rfl w.heap.size 5 i0 (.int .u8 0) 1 Try.underlying23 hi hz0 hz1 _ _ _ (k.length + 2) rfl rfl (by omega) (by rw [hz2]; omega) (by unfold maxLen; omega) (Nat.le_refl _) ?_
       intro w0 hown0 hg0
       have HO0 : Hid (w0.ownsRow w.heap.size 5 1 (.slice (some ⟨w.heap.size, 0, none⟩) 0 (k.length + 2)) 0 []) := hown0
       have HB0 : Hid (Below w.heap.size w w0) := (Below.refl _ _).grown hg0 (Nat.le_refl _) (fun k h => by cases h)
       clear hown0 hg0)
    | (at_builtin; refine wpList_append_fits_any _ rfl _ _ 23 rfl w.heap.size 5 i0 1 Try.underlying23 hi hz1 w.heap.size 0 (k.length + 2) [] rfl HO0.out a k.length c (k.map encB) rfl (by simp) HN.out (app_src (HB.out.below HB0.out)) (oneB k) (by omega) ?_
       intro w1 hown1 hg1
       have HO1 : Hid (w1.ownsRow w.heap.size 5 1 (.slice (some ⟨w.heap.size, 0, none⟩) k.length (k.length + 2)) k.length (k.map encB)) := by rw [Nat.zero_add, List.nil_append] at hown1; exact hown1
       have HB1 : Hid (Below w.heap.size w w1) := HB0.out.grown hg1 HB0.out.size (fun k h => by cases h; exact Nat.le_refl _)
       clear hown1 hg1)
    | (at_builtin; refine wpList_append_fits _ rfl _ _ 23 rfl w.heap.size 5 i0 1 Try.underlying23 hi hz1 w.heap.size k.length (k.length + 2) (k.map encB) rfl (own_same HO1.out fun b _ hl => (below_new w1 _).block b hl) ⟨w1.heap.size, 0, none⟩ 2 2 (([251, 252] : Key).map encB) rfl (by simp) (marks_src w1) (oneB _) (by omega) ?_
       intro w2 hown2 hg2
       have HO2 : Hid (w2.ownsRow w.heap.size 5 1 (.slice (some ⟨w.heap.size, 0, none⟩) (k.length + 2) (k.length + 2)) (k.length + 2) (k.map encB ++ ([251, 252] : Key).map encB)) := hown2
       have HB2 : Hid (Below w.heap.size w w2) := (HB1.out.alloc HB1.out.size _).grown hg2 (Nat.le_trans HB1.out.size (by simp)) (fun k h => by cases h; exact Nat.le_refl _)
       clear hown2 hg2))
  go_ret
  refine ⟨rfl, ⟨?_⟩, HB2.out⟩
  rw [List.map_append]
  exact own_full HO2.out
end Go.Proofs.Ytphohkchffcjeaa
