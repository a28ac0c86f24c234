/- The chapter's examples: the law's own function 'awake' answers true. -/
import Derived.Test.YtcfmcakdgamdmaaSame
namespace Go.Proofs.Ytcfmcakdgamdmaa
open Go.RowKit

def X1 : Lf := ⟨7, 3, 5⟩
def X2 : Lf := ⟨7, 5, 9⟩
def X3 : Lf := ⟨8, 1, 9⟩
theorem p1E : putE [] X1 = 0 := by decide +kernel
theorem p1L : putL [] X1 = [X1] := by decide +kernel
theorem p2E : putE [X1] X2 = 0 := by decide +kernel
theorem p2L : putL [X1] X2 = [X1, X2] := by decide +kernel
theorem p3E : putE [X1, X2] X3 = 0 := by decide +kernel
theorem p3L : putL [X1, X2] X3 = [X1, X2, X3] := by decide +kernel
theorem p4E : putE [X1, X2, X3] ⟨7, 4, 6⟩ = 102 := by decide +kernel
theorem p4L : putL [X1, X2, X3] ⟨7, 4, 6⟩ = [X1, X2, X3] := by decide +kernel
theorem p5E : putE [X1, X2, X3] ⟨1, 3, 5⟩ = 101 := by decide +kernel
theorem p5L : putL [X1, X2, X3] ⟨1, 3, 5⟩ = [X1, X2, X3] := by decide +kernel
theorem h5 : heldL [X1, X2, X3] 5 = [7, 8] := by decide +kernel
theorem g5 : goneL [X1, X2, X3] [5, 5] = [7] := by decide +kernel
theorem l5 : leftL [X1, X2, X3] [5, 5] = [X2, X3] := by decide +kernel
/-- One Put more, of a list that was made. -/
theorem put_next {w w1 : World} {b : Nat} {v : Value} {L M : List Lf} {x : Lf} {z : Int} (h : ListAt w.heap.size w1 b v L) (hb : Below w.heap.size w w1) (hl : L.length ≤ 100) (hz : putE L x = z) (hM : putL L x = M) :
    Calls Try.prog 21 #[.pointer (some ⟨b, 0, none⟩), .agg #[.int .i64 x.p, .int .u64 x.b, .int .u64 x.d]] w1 fun r w' => r = .returned (.int .i64 z) ∧ Hid (∃ v', ListAt w.heap.size w' b v' M ∧ Below w.heap.size w w') := by
  refine (show Calls Try.prog 21 #[.pointer (some ⟨b, 0, none⟩), aggL x] w1 _ from put_any h hb.size (by omega)).mono ?_
  rintro r w' ⟨v', rfl, h1, h2, _⟩
  rw [hz, hM] at *
  exact ⟨rfl, v', h1, Kept.below hb h2 hb.size (fun i hi => (h.its i hi).1)⟩
theorem cells_ints (w : World) (l : List Int) (n : Nat) (hn : n = l.length) : IntsAt (w.alloc (.cells (l.map encI).toArray 3)) (.slice (some ⟨w.heap.size, 0, none⟩) n n) l := by
  subst hn
  refine ⟨⟨_, _, rfl, Nat.le_refl _, (fun h => by cases h), fun j u hj => ⟨w.heap.size, 0, rfl, by simp, ?_⟩⟩, by simp⟩
  rw [row_cell (heap_alloc_last w _), Nat.zero_add]
  simpa using hj
theorem cells_u64 (w : World) (l : List Int) (n : Nat) (hn : n = l.length) : U64At (w.alloc (.cells (l.map encU).toArray 32)) (.slice (some ⟨w.heap.size, 0, none⟩) n n) l := by
  subst hn
  refine ⟨⟨_, _, rfl, Nat.le_refl _, (fun h => by cases h), fun j u hj => ⟨w.heap.size, 0, rfl, by simp, ?_⟩⟩, by simp⟩
  rw [row_cell (heap_alloc_last w _), Nat.zero_add]
  simpa using hj
theorem own_apart {base base' e k n : Nat} {w : World} {b : Nat} {v u : Value} {L : List Lf} {xs : List Value} (h : ListAt base w b v L) (ho : w.ownsRow base' e k u n xs) (h1 : e ≠ 34) (h2 : e ≠ 63) : ∀ i, u.ownBlock = some i → ¬ Its b v i := fun i hi hit => by
  obtain ⟨_, _, cur, hc⟩ := own_type ho i hi
  rcases hit with rfl | hit
  · rw [h.cells] at hc
    simp at hc
    exact h2 hc.2.symm
  · obtain ⟨_, _, cur', hc'⟩ := own_type h.row i hit
    rw [hc'] at hc
    simp at hc
    exact h1 hc.2.symm
set_option maxHeartbeats 3200000 in
set_option maxRecDepth 100000 in
theorem awake_any (w : World) : Calls Try.prog 7 #[] w fun e w' => e = .returned (.bool true) ∧ Below w.heap.size w w' := by
  go_enter Try.func7, Try.ntmps7
  go_wp2_with fail
  refine (new_any w).mono ?_
  rintro e w1 ⟨rfl, hl1, hb1⟩
  have HL1 : Hid _ := hl1
  have HB1 : Hid _ := hb1
  clear hl1 hb1
  go_wp2_with fail
  refine (put_next HL1.out HB1.out (by decide) p1E p1L).mono ?_
  rintro e w2 ⟨rfl, h2⟩
  go_wp2_with fail
  obtain ⟨v2, hl2, hb2⟩ := h2.out
  clear h2
  refine (put_next hl2 hb2 (by decide) p2E p2L).mono ?_
  rintro e w3 ⟨rfl, h3⟩
  clear hl2 hb2
  go_wp2_with fail
  obtain ⟨v3, hl3, hb3⟩ := h3.out
  clear h3
  refine (put_next hl3 hb3 (by decide) p3E p3L).mono ?_
  rintro e w4 ⟨rfl, h4⟩
  clear hl3 hb3
  go_wp2_with fail
  obtain ⟨v4, hl4, hb4⟩ := h4.out
  clear h4
  refine (put_next hl4 hb4 (by decide) p4E p4L).mono ?_
  rintro e w5 ⟨rfl, h5'⟩
  clear hl4 hb4
  go_wp2_with fail
  obtain ⟨v5, hl5, hb5⟩ := h5'.out
  clear h5'
  refine (put_next hl5 hb5 (by decide) p5E p5L).mono ?_
  rintro e w6 ⟨rfl, h6⟩
  clear hl5 hb5
  go_wp2_with fail
  obtain ⟨v6, hl6, hb6⟩ := h6.out
  clear h6
  refine (held_any hl6 5).mono ?_
  rw [h5]
  rintro e w7 ⟨v7, rfl, hn7, hb7⟩
  have hl7 := hl6.below hb7
  have HB7 : Hid (Below w.heap.size w w7) := hb6.trans (hb7.mono hb6.size)
  have HN7 : Hid _ := hn7
  have HL7 : Hid _ := hl7
  clear hl6 hb6 hn7 hb7 hl7
  go_wp2_with fail
  have hbn : Below w7.heap.size w7 (w7.alloc (.cells #[.int .u64 5, .int .u64 5] 32)) := below_new w7 _
  have HL8 : Hid (ListAt w.heap.size (w7.alloc (.cells #[.int .u64 5, .int .u64 5] 32)) w.heap.size v6 [X1, X2, X3]) := HL7.out.below hbn
  have HN8 : Hid (NewI w6.heap.size (w7.alloc (.cells #[.int .u64 5, .int .u64 5] 32)) v7 [7, 8]) := own_here HN7.out hbn
  have HB8 : Hid (Below w.heap.size w (w7.alloc (.cells #[.int .u64 5, .int .u64 5] 32))) := Below.trans HB7.out (hbn.mono (Below.size HB7.out))
  clear hbn
  refine (free_any HL8.out (cells_u64 w7 [5, 5] 2 rfl) (by decide) (sort12 2 (by decide))).mono ?_
  rintro e w9 ⟨v9, u9, rfl, hn9, hl9, hk9, _⟩
  rw [g5] at hn9
  rw [l5] at hl9
  have HN9 : Hid _ := hn9
  have HN7' : Hid (NewI w6.heap.size w9 v7 [7, 8]) := own_kept HN8.out hk9 (own_apart HL8.out HN8.out (by decide) (by decide))
  have HL9 : Hid _ := hl9
  have HB9 : Hid (Below w.heap.size w w9) := Kept.below HB8.out hk9 (Below.size HB8.out) (fun i hi => (HL8.out.its i hi).1)
  clear hn9 hl9 hk9
  go_wp2_with fail
  have hbA : Below w9.heap.size w9 (w9.alloc (.cells #[.int .i64 7, .int .i64 8] 3)) := below_new w9 _
  refine (sameInts_any (x := [7, 8]) (y := [7, 8]) (RowAt.own (own_here HN7'.out hbA)) (cells_ints w9 [7, 8] 2 rfl) (by decide)).mono ?_
  rintro e wA ⟨rfl, q1, hwA⟩
  have HBA : Hid (Below w9.heap.size w9 wA) := by rw [hwA]; exact below_draws hbA _
  clear hwA hbA
  go_wp2_with fail
  have hbC : Below wA.heap.size wA (wA.alloc (.cells #[.int .i64 7] 3)) := below_new wA _
  refine (sameInts_any (x := [7]) (y := [7]) (RowAt.own (own_here (own_here HN9.out HBA.out) hbC)) (cells_ints wA [7] 1 rfl) (by decide)).mono ?_
  rintro e wB ⟨rfl, q2, hwB⟩
  have HBB : Hid (Below w9.heap.size w9 wB) := by rw [hwB]; exact below_draws (Below.trans HBA.out (hbC.mono (Below.size HBA.out))) _
  clear hwB hbC
  go_wp2_with fail
  refine (count_any (HL9.out.below HBB.out)).mono ?_
  rintro e wC ⟨rfl, hwC⟩
  obtain rfl := hwC.symm
  go_wp2_with fail
  go_ret
  exact ⟨rfl, Below.trans HB9.out (Below.mono HBB.out (Below.size HB9.out))⟩
theorem deadNames_any (w : World) : Calls Try.prog 3 #[] w fun e w' => e = .returned (.bool true) ∧ Below w.heap.size w w' := by
  have HA := awake_any w
  go_enter Try.func3, Try.ntmps3
  go_wp2_with (go_at_call 7; refine HA.mono ?_; rintro e w1 ⟨rfl, hb⟩; have HB : Hid _ := hb; clear hb)
  go_ret
  exact ⟨rfl, HB.out⟩
end Go.Proofs.Ytcfmcakdgamdmaa
