/- The document's Held and Free. -/
import Derived.Test.YtcfmcakdgamdmaaRefD
namespace Go.Proofs.Ytcfmcakdgamdmaa
open Go.RowKit

theorem below_cell {B : Nat} {a w : World} (h : Below B a w) {g i : Nat} (hg : g < B) : w.cell? ⟨g, i, none⟩ = a.cell? ⟨g, i, none⟩ := Below.cell (p := ⟨g, i, none⟩) h hg
theorem heldL_step {L : List Lf} {k : Nat} {y : Lf} (s : Int) (hy : L[k]? = some y) : heldL (L.take (k + 1)) s = heldL (L.take k) s ++ if needsL s y = true then [y.p] else [] := by
  unfold heldL
  rw [List.take_add_one, hy, List.filter_append, List.map_append]
  congr 1
  by_cases hn : needsL s y = true <;> simp [hn]
theorem heldL_short (L : List Lf) (k : Nat) (s : Int) : (heldL (L.take k) s).length ≤ L.length := by
  unfold heldL
  rw [List.length_map]
  exact Nat.le_trans (List.length_filter_le _ _) (List.length_take_le' _ _)
set_option maxHeartbeats 800000 in
set_option maxRecDepth 100000 in
theorem refHeld_any {B : Nat} {w : World} {b : Nat} {v : Value} {L : List Lf} (h : RefAt B w b v L) (hsh : L.length * 24 ≤ 140737488355328) (s : Int) : Calls Try.prog 26 #[.pointer (some ⟨b, 0, none⟩), .int .u64 s] w fun e w' => ∃ v', e = .returned v' ∧ NewI w.heap.size w' v' (heldL L s) ∧ Below w.heap.size w w' := by
  have H : Hid _ := h
  obtain ⟨a, c, rfl⟩ := own_slice h.row
  clear h
  go_enter Try.func26, Try.ntmps26
  go_wp2_with fail
  go_loopw [5, 6] (fun u i wx => ∃ k : Nat, k ≤ L.length ∧ i = .int .i64 k ∧ NewI w.heap.size wx u (heldL (L.take k) s) ∧ Below w.heap.size w wx) (fun _ i _ => L.length - (intOf i).toNat)
  case atStart => exact ⟨0, Nat.zero_le _, rfl, World.ownsRow_nil _ _ _ _, Below.refl _ _⟩
  case round =>
    obtain ⟨k, hk, rfl, hu, hbl⟩ := hrel
    have c0 := (H.out.below hbl).cell
    have HB : Hid (Below w.heap.size w wr) := hbl
    by_cases hlt : k < L.length
    · have hltz : (k : Int) < (L.length : Int) := by omega
      obtain ⟨y, hy⟩ : ∃ y, L[k]? = some y := ⟨_, List.getElem?_eq_getElem hlt⟩
      obtain ⟨g, off, rfl, hg, k0, k1, k2⟩ := lives_cell ((RowAt.own H.out.row).here hbl) hy
      have HTK : Hid _ := heldL_step s hy
      have HLH : Hid _ := heldL_short L k s
      have HU : Hid (NewI w.heap.size wr u5 (heldL (L.take k) s)) := hu
      have hbl' : b < wr.heap.size := (H.out.below hbl).lt
      have hnd := refNeeds_any wr s y
      generalize needsL s y = nb at hnd HTK
      have HND : Hid (Calls Try.prog 42 #[.int .u64 s, .agg #[.int .i64 y.p, .int .u64 y.b, .int .u64 y.d]] wr fun e w' => e = .returned (.bool nb) ∧ Below wr.heap.size wr w') := hnd
      clear hy hu hbl hnd
      go_wp2_with fail
      refine Calls.mono HND.out ?_
      rintro e w3 ⟨rfl, hb3⟩
      have d0 := (below_cell hb3 hbl').trans c0
      have j0 := (below_cell hb3 hg).trans k0
      have HU3 : Hid (NewI w.heap.size w3 u5 (heldL (L.take k) s)) := own_here HU.out hb3
      have HB3 : Hid (Below w.heap.size w w3) := HB.out.trans (hb3.mono HB.out.size)
      clear hb3 c0 k0 k1 k2 HND HU
      cases nb with
      | true =>
        go_wp2_with (first
          | (at_builtin
             refine wpList_append_int rfl _ _ rfl w.heap.size u5 (heldL (L.take k) s) y.p rfl (own_here HU3.out (below_new _ _)) w3.heap.size rfl (heap_alloc_last w3 _) (by have := HLH.out; omega) (Nat.le_trans HB3.out.size (below_new w3 _).size) ?_
             intro v5 w5 hv5 _ hk5
             have HV5 : Hid (NewI w.heap.size w5 v5 (heldL (L.take k) s ++ [y.p])) := hv5
             have HB5 : Hid (Below w.heap.size w w5) := (HB3.out.trans ((below_new w3 _).mono HB3.out.size)).trans hk5.low
             clear hv5 hk5))
        exact ⟨⟨k + 1, by omega, by go_num, by rw [HTK.out]; exact HV5.out, HB5.out⟩, by simp [intOf]; omega⟩
      | false =>
        go_wp2_with fail
        exact ⟨⟨k + 1, by omega, by go_num, by rw [HTK.out]; simp only [Bool.false_eq_true, if_false, List.append_nil]; exact HU3.out, HB3.out⟩, by simp [intOf]; omega⟩
    · have hltz : ¬ (k : Int) < (L.length : Int) := by omega
      have HE : Hid (L.take k = L) := List.take_of_length_le (by omega)
      rw [HE.out] at hu
      have HU : Hid _ := hu
      clear hu hbl
      go_wp2_with fail
      go_ret
      exact ⟨_, rfl, HU.out, HB.out⟩
/-- The last one of a list. -/
theorem onceF_snoc (last : Option Int) (l : List Int) (n : Int) : onceF last (l ++ [n]) = onceF last l ++ (if (l.getLast?.or last) = some n then [] else [n]) := by
  induction l generalizing last with
  | nil =>
    unfold onceF
    by_cases h : last = some n <;> simp [h, onceF]
  | cons m l ih =>
    rw [List.cons_append]
    unfold onceF
    have hl : (m :: l).getLast?.or last = l.getLast?.or (some m) := by
      cases l with
      | nil => simp
      | cons p q =>
        rw [List.getLast?_cons_cons]
        cases hz : (p :: q).getLast? with
        | none => simp at hz
        | some z => rfl
    by_cases h : last = some m
    · rw [if_pos h, if_pos h, ih, hl, ← h]
    · rw [if_neg h, if_neg h, ih, hl, List.cons_append]
theorem onceF_last (last : Option Int) (l : List Int) : (onceF last l).getLast?.or last = l.getLast?.or last := by
  induction l generalizing last with
  | nil => simp [onceF]
  | cons m l ih =>
    unfold onceF
    have hl : ∀ (q : List Int), (m :: q).getLast?.or last = q.getLast?.or (some m) := fun q => by
      cases q with
      | nil => simp
      | cons p q =>
        rw [List.getLast?_cons_cons]
        cases hz : (p :: q).getLast? with
        | none => simp at hz
        | some z => rfl
    by_cases h : last = some m
    · rw [if_pos h, ih, hl, h]
    · rw [if_neg h, hl, hl, ih]
theorem onceL_snoc (l : List Int) (n : Int) : onceL (l ++ [n]) = if (onceL l).getLast? = some n then onceL l else onceL l ++ [n] := by
  have h1 := onceF_snoc none l n
  have h2 := onceF_last none l
  simp only [Option.or_none] at h1 h2
  unfold onceL
  rw [h1, h2]
  split <;> simp
theorem gone_step {L : List Lf} {S : List Int} {k : Nat} {y : Lf} (hy : L[k]? = some y) : goneL (L.take (k + 1)) S = if anyL S y = true then goneL (L.take k) S else if (goneL (L.take k) S).getLast? = some y.p then goneL (L.take k) S else goneL (L.take k) S ++ [y.p] := by
  unfold goneL
  rw [List.take_add_one, hy]
  simp only [Option.toList_some, List.filter_append, List.map_append]
  by_cases hn : anyL S y = true
  · simp [hn]
  · have hn' : anyL S y = false := by simpa using hn
    simp only [hn', List.filter_cons, List.filter_nil, Bool.not_false, if_true, List.map_cons, List.map_nil, onceL_snoc]
    simp
theorem left_step {L : List Lf} {S : List Int} {k : Nat} {y : Lf} (hy : L[k]? = some y) : leftL (L.take (k + 1)) S = leftL (L.take k) S ++ if anyL S y = true then [y] else [] := by
  unfold leftL
  rw [List.take_add_one, hy, List.filter_append]
  congr 1
  by_cases hn : anyL S y = true <;> simp [hn]
theorem onceF_short (last : Option Int) (l : List Int) : (onceF last l).length ≤ l.length := by
  induction l generalizing last with
  | nil => simp [onceF]
  | cons m l ih =>
    unfold onceF
    split
    · exact Nat.le_succ_of_le (ih _)
    · simpa using ih _
theorem gone_short (L : List Lf) (k : Nat) (S : List Int) : (goneL (L.take k) S).length ≤ L.length := by
  unfold goneL onceL
  refine Nat.le_trans (onceF_short _ _) ?_
  rw [List.length_map]
  exact Nat.le_trans (List.length_filter_le _ _) (List.length_take_le' _ _)
theorem left_short (L : List Lf) (k : Nat) (S : List Int) : (leftL (L.take k) S).length ≤ k := by
  unfold leftL
  exact Nat.le_trans (List.length_filter_le _ _) (List.length_take_le _ _)
end Go.Proofs.Ytcfmcakdgamdmaa
