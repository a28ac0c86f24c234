/- The law's own functions, further: kept, turned. -/
import Derived.Test.YtphohkchffcjeaaLent
namespace Go.Proofs.Ytphohkchffcjeaa
open Go.RowKit

/-- Bytes as their owner has written over them, as far as i. -/
def overK (k : Key) (i : Nat) : Key := (k.take i).map (255 - ·) ++ k.drop i
theorem overK_length (k : Key) (i : Nat) : (overK k i).length = k.length := by simp [overK]; omega
theorem overK_zero (k : Key) : overK k 0 = k := by simp [overK]
theorem overK_all (k : Key) : overK k k.length = k.map (255 - ·) := by simp [overK]
theorem overK_at (k : Key) (i : Nat) : (overK k i)[i]? = k[i]? := by
  unfold overK
  by_cases h : i ≤ k.length
  · rw [List.getElem?_append_right (by simp; omega)]
    simp only [List.length_map, List.length_take, List.getElem?_drop]
    congr 1
    omega
  · rw [List.getElem?_eq_none (by simp; omega), List.getElem?_eq_none (by omega)]
theorem overK_next (k : Key) (i : Nat) (c : UInt8) (hc : k[i]? = some c) : (overK k i).set i (255 - c) = overK k (i + 1) := by
  have hk := (List.getElem?_eq_some_iff.1 hc).1
  unfold overK
  have hlen : ((k.take i).map (255 - ·)).length = i := by simp; omega
  rw [List.set_append_right _ _ (by omega), hlen, Nat.sub_self, List.take_add_one, hc, List.drop_eq_getElem_cons hk]
  have hv : k[i] = c := (List.getElem?_eq_some_iff.1 hc).2
  simp [hv]
theorem turn_byte (c : UInt8) : (255 : Int) - (c.toNat : Int) = ((255 - c : UInt8).toNat : Int) := by
  have h : c ≤ 255 := by
    rw [UInt8.le_iff_toNat_le]
    have := c.toNat_lt
    show c.toNat ≤ 255
    omega
  rw [UInt8.toNat_sub_of_le _ _ h]
  have := c.toNat_lt
  show (255 : Int) - (c.toNat : Int) = ((255 - c.toNat : Nat) : Int)
  omega

/-- All blocks but one are as they were. -/
structure But (g : Nat) (w w' : World) : Prop where
  below : Below g w w'
  other : ∀ q : Nat, q ≠ g → w'.heap[q]? = w.heap[q]?
  size : w'.heap.size = w.heap.size
theorem But.refl (g : Nat) (w : World) : But g w w := ⟨Below.refl _ _, fun _ _ => rfl, rfl⟩
theorem But.set {g : Nat} {w w' : World} (h : But g w w') (j : Nat) (v : Value) : But g w (w'.setCell ⟨g, j, none⟩ v) :=
  ⟨h.below.setCell (Nat.le_refl _) _, fun q hq => by rw [heap_set_other _ hq]; exact h.other q hq, by have := h.size; simpa using this⟩

set_option maxHeartbeats 800000 in
set_option maxRecDepth 100000 in
theorem kept_any {B g : Nat} {w : World} {a : Option Addr} {c : Nat} {k : Key} (hr : BRow w g (k ++ [251, 252])) (hk : KeyIn B w (.slice a k.length c) k) (hB : B ≤ g) (hl : k.length ≤ 140737488351232) :
    Calls Try.prog 12 #[.slice (some ⟨g, 0, none⟩) k.length (k.length + 2), .slice a k.length c] w fun e w' => e = .returned (.bool true) ∧ BRow w' g (k.map (255 - ·) ++ [251, 252]) ∧ But g w w' := by
  have HR : Hid (BRow w g (k ++ [251, 252])) := hr
  have hKA : KeyAt w (.slice a k.length c) k := hk.at (Nat.le_trans hB (Nat.le_of_lt hr.lt))
  have e1 := conv_key (hr.key (k.length + 2) (by omega) (by omega))
  have e2 := conv_key hKA
  have h1 := hr.cell k.length 251 (by simp)
  have h2 := hr.cell (k.length + 1) 252 (by rw [List.getElem?_append_right (by omega)]; simp)
  clear hr hk hKA
  go_enter Try.func12, Try.ntmps12
  go_wp2_with fail
  clear e1 e2 h1 h2
  go_loopw [8] (fun i wr => ∃ j : Nat, j ≤ k.length ∧ i = .int .i64 j ∧ BRow wr g (overK k j ++ [251, 252]) ∧ But g w wr) (fun i _ => k.length - (intOf i).toNat)
  case atStart => exact ⟨0, Nat.zero_le _, rfl, by rw [overK_zero]; exact HR.out, But.refl _ _⟩
  case round =>
    obtain ⟨j, hj, rfl, hrow, hbut⟩ := hrel
    have HRW : Hid (BRow wr g (overK k j ++ [251, 252])) := hrow
    have HBT : Hid (But g w wr) := hbut
    by_cases hlt : j < k.length
    · have hltz : (j : Int) < (k.length : Int) := by omega
      have hltz2 : (j : Int) < (k.length : Int) + 2 := by omega
      obtain ⟨x, hx⟩ : ∃ x, k[j]? = some x := ⟨_, List.getElem?_eq_getElem hlt⟩
      have HX : Hid (k[j]? = some x) := hx
      have hcell := hrow.cell j x (by rw [List.getElem?_append_left (by rw [overK_length]; exact hlt), overK_at]; exact hx)
      have hfz := hrow.frozen j
      have hx0 : (x.toNat : Int) ≤ 255 := by have := x.toNat_lt; omega
      clear hrow hbut hx
      go_wp2
      rw [turn_byte]
      have hset := HRW.out.set j (255 - x)
      rw [List.set_append_left _ _ (by rw [overK_length]; exact hlt), overK_next _ _ _ HX.out] at hset
      exact ⟨⟨j + 1, by omega, by go_num, hset, HBT.out.set _ _⟩, by simp [intOf]; omega⟩
    · obtain rfl : j = k.length := by omega
      clear hrow hbut
      go_wp2
      go_ret
      refine ⟨rfl, ?_, HBT.out⟩
      have := HRW.out
      rw [overK_all] at this
      exact this

set_option maxHeartbeats 800000 in
set_option maxRecDepth 100000 in
theorem turned_any {w : World} {v : Value} {k : Key} (h : KeyAt w v k) (hk : k.length ≤ 140737488351232) :
    Calls Try.prog 13 #[v] w fun e w' => e = .returned (.slice (some ⟨w.heap.size, 0, none⟩) k.length (k.length + 2)) ∧ BRow w' w.heap.size (k.map (255 - ·) ++ [251, 252]) ∧ Below w.heap.size w w' := by
  have HLE := lent_any h hk
  have HK : Hid (KeyAt w v k) := h
  obtain ⟨a, c, rfl, _⟩ := h.is
  clear h
  go_enter Try.func13, Try.ntmps13
  go_wp2_with fail
  refine HLE.mono ?_
  rintro e w1 ⟨rfl, hr, hb⟩
  have HB : Hid (Below w.heap.size w w1) := hb
  have HKE := kept_any hr (HK.out.in.below hb) (Nat.le_refl _) hk
  clear HLE hr hb
  go_wp2_with fail
  refine HKE.mono ?_
  rintro e w2 ⟨rfl, hr2, hbt⟩
  have HR2 : Hid (BRow w2 w.heap.size (k.map (255 - ·) ++ [251, 252])) := hr2
  have HB2 : Hid (Below w.heap.size w w2) := HB.out.trans hbt.below
  clear HKE hr2 hbt
  go_wp2
  go_ret
  exact ⟨rfl, HR2.out, HB2.out⟩
end Go.Proofs.Ytphohkchffcjeaa
