/- The children that may be chosen. -/
import Derived.Test.YtejenfcfngjaaaaSmall
namespace Go.Proofs.Ytejenfcfngjaaaa
open Go.RowKit

set_option maxHeartbeats 800000 in
set_option maxRecDepth 100000 in
theorem cands_any {w : World} {v : Value} {W : List Int} (hW : IntsAt w v W) (hs : W.length * 8 ≤ 140737488355328) :
    Calls Try.prog 22 #[v] w fun e w' => ∃ v', e = .returned v' ∧ NewI w.heap.size w' v' (mayI W W.length) ∧ Below w.heap.size w w' := by
  obtain ⟨a, c, rfl⟩ := hW.form
  have HW : Hid (IntsAt w (.slice a W.length c) W) := hW
  clear hW
  go_enter Try.func22, Try.ntmps22
  go_wp2_with fail
  go_loopw [3, 8] (fun u i wx => ∃ k : Nat, k ≤ W.length ∧ i = .int .i64 k ∧ NewI w.heap.size wx u (mayI W k) ∧ Below w.heap.size w wx) (fun _ i _ => W.length - (intOf i).toNat)
  case atStart => exact ⟨0, Nat.zero_le _, rfl, World.ownsRow_nil _ _ _ _, Below.refl _ _⟩
  case round =>
    obtain ⟨k, hk, rfl, hu, hbl⟩ := hrel
    by_cases hlt : k < W.length
    · have hltz : (k : Int) < (W.length : Int) := by omega
      obtain ⟨y, hy⟩ : ∃ y, W[k]? = some y := ⟨_, List.getElem?_eq_getElem hlt⟩
      obtain ⟨g, off, rfl, hg, k0⟩ := ints_cell (HW.out.here hbl) hy
      have hlen := mayI_len W k
      have HLH : Hid ((mayI W k).length ≤ k) := hlen
      clear hlen
      by_cases hp : 0 < y
      · have hp2 : y > 0 := hp
        have HTK : Hid (mayI W (k + 1) = mayI W k ++ [(k : Int)]) := mayI_yes hy hp
        have HU4 : Hid (NewI w.heap.size (wr.alloc (.cells #[.int .i64 (k : Int)] 3)) u3 (mayI W k)) := own_here hu (below_new _ _)
        have HB4 : Hid (Below w.heap.size w (wr.alloc (.cells #[.int .i64 (k : Int)] 3))) := hbl.alloc hbl.size _
        clear hy hu hbl
        go_wp2_with (at_builtin
                     refine wpList_append_int rfl _ _ rfl w.heap.size u3 (mayI W k) (k : Int) rfl HU4.out wr.heap.size rfl (heap_alloc_last wr _) (by have := HLH.out; omega) (Below.size HB4.out) ?_
                     intro v5 w5 hv5 _ hk5
                     have HV5 : Hid _ := hv5
                     have HB5 : Hid (Below w.heap.size w w5) := Below.trans HB4.out hk5.low
                     clear hv5 hk5)
        exact ⟨⟨k + 1, by omega, by go_num, by rw [HTK.out]; exact HV5.out, HB5.out⟩, by simp [intOf]; omega⟩
      · have hp2 : ¬ y > 0 := hp
        have HTK : Hid (mayI W (k + 1) = mayI W k) := mayI_no hy hp
        have HU : Hid _ := hu
        have HB : Hid _ := hbl
        clear hy hu hbl
        go_wp2_with fail
        exact ⟨⟨k + 1, by omega, by go_num, by rw [HTK.out]; exact HU.out, HB.out⟩, by simp [intOf]; omega⟩
    · have hltz : ¬ (k : Int) < (W.length : Int) := by omega
      have HE : Hid (k = W.length) := by show k = _; omega
      rw [HE.out] at hu
      have HU : Hid _ := hu
      have HB : Hid _ := hbl
      clear hu hbl
      go_wp2_with fail
      go_ret
      exact ⟨_, rfl, HU.out, HB.out⟩
set_option maxHeartbeats 800000 in
set_option maxRecDepth 100000 in
theorem may_any {w : World} {v : Value} {W : List Int} (hW : IntsAt w v W) (hs : W.length * 8 ≤ 140737488355328) :
    Calls Try.prog 23 #[v] w fun e w' => ∃ v', e = .returned v' ∧ NewI w.heap.size w' v' (mayI W W.length) ∧ Below w.heap.size w w' := by
  obtain ⟨a, c, rfl⟩ := hW.form
  have HW : Hid (IntsAt w (.slice a W.length c) W) := hW
  clear hW
  go_enter Try.func23, Try.ntmps23
  go_wp2_with fail
  go_loopw [3, 4] (fun u i wx => ∃ k : Nat, k ≤ W.length ∧ i = .int .i64 k ∧ NewI w.heap.size wx u (mayI W k) ∧ Below w.heap.size w wx) (fun _ i _ => W.length - (intOf i).toNat)
  case atStart => exact ⟨0, Nat.zero_le _, rfl, World.ownsRow_nil _ _ _ _, Below.refl _ _⟩
  case round =>
    obtain ⟨k, hk, rfl, hu, hbl⟩ := hrel
    by_cases hlt : k < W.length
    · have hltz : (k : Int) < (W.length : Int) := by omega
      obtain ⟨y, hy⟩ : ∃ y, W[k]? = some y := ⟨_, List.getElem?_eq_getElem hlt⟩
      obtain ⟨g, off, rfl, hg, k0⟩ := ints_cell (HW.out.here hbl) hy
      have hlen := mayI_len W k
      have HLH : Hid ((mayI W k).length ≤ k) := hlen
      clear hlen
      by_cases hp : 0 < y
      · have hp2 : y > 0 := hp
        have HTK : Hid (mayI W (k + 1) = mayI W k ++ [(k : Int)]) := mayI_yes hy hp
        have HU4 : Hid (NewI w.heap.size (wr.alloc (.cells #[.int .i64 (k : Int)] 3)) u3 (mayI W k)) := own_here hu (below_new _ _)
        have HB4 : Hid (Below w.heap.size w (wr.alloc (.cells #[.int .i64 (k : Int)] 3))) := hbl.alloc hbl.size _
        clear hy hu hbl
        go_wp2_with (at_builtin
                     refine wpList_append_int rfl _ _ rfl w.heap.size u3 (mayI W k) (k : Int) rfl HU4.out wr.heap.size rfl (heap_alloc_last wr _) (by have := HLH.out; omega) (Below.size HB4.out) ?_
                     intro v5 w5 hv5 _ hk5
                     have HV5 : Hid _ := hv5
                     have HB5 : Hid (Below w.heap.size w w5) := Below.trans HB4.out hk5.low
                     clear hv5 hk5)
        exact ⟨⟨k + 1, by omega, by go_num, by rw [HTK.out]; exact HV5.out, HB5.out⟩, by simp [intOf]; omega⟩
      · have hp2 : ¬ y > 0 := hp
        have HTK : Hid (mayI W (k + 1) = mayI W k) := mayI_no hy hp
        have HU : Hid _ := hu
        have HB : Hid _ := hbl
        clear hy hu hbl
        go_wp2_with fail
        exact ⟨⟨k + 1, by omega, by go_num, by rw [HTK.out]; exact HU.out, HB.out⟩, by simp [intOf]; omega⟩
    · have hltz : ¬ (k : Int) < (W.length : Int) := by omega
      have HE : Hid (k = W.length) := by show k = _; omega
      rw [HE.out] at hu
      have HU : Hid _ := hu
      have HB : Hid _ := hbl
      clear hu hbl
      go_wp2_with fail
      go_ret
      exact ⟨_, rfl, HU.out, HB.out⟩
end Go.Proofs.Ytejenfcfngjaaaa
