/- slices.Grow of nothing, slices.Concat, of entries. -/
import Derived.Test.YtgifnaahahfhbabAnew
namespace Go.Proofs.Ytgifnaahahfhbab
open Go.RowKit

/-- Entries in a row of new memory, whatever their own memory. -/
structure OwnE (base : Nat) (w : World) (v : Value) (F : List It) : Prop where
  own : w.ownsRow base 25 2 v F.length (flat F)
theorem OwnE.nil (base : Nat) (w : World) : OwnE base w (.slice none 0 0) [] := ⟨World.ownsRow_nil _ _ _ _⟩

set_option maxHeartbeats 800000 in
set_option maxRecDepth 100000 in
theorem growE_any (w : World) (n : Nat) (hn : n * 48 ≤ 140737488355328) :
    Calls Try.prog 40 #[.slice none 0 0, .int .i64 n] w fun e w' => ∃ v, e = .returned v ∧ OwnE w.heap.size w' v [] ∧ Below w.heap.size w w' := by
  obtain ⟨i0, hi, hz0, hz1, hz2⟩ := infoE'
  by_cases h0 : n = 0
  · subst h0
    go_enter Try.func40, Try.ntmps40
    go_wp2
    go_ret
    exact ⟨_, rfl, OwnE.nil _ _, Below.refl _ _⟩
  · have hz : (0 : Int) < (n : Int) := by omega
    have hz3 : ¬ (n : Int) < 0 := by omega
    have hz4 : 0 < n := by omega
    have hrz : ∀ ty, (Builtin.append_ #[22, 3] ty #[.slice none 0 0, .int .i64 (n : Int)]).run Try.prog w =
        .ok (.slice (some ⟨w.heap.size, 0, none⟩) n (grownCap w n 0 25)) (w.drew.alloc (.cells (([] : List Value).toArray ++ Builtin.zeroCells (Value.agg #[.slice none 0 0, .slice none 0 0]).cells n ++ Builtin.zeroCells (Value.agg #[.slice none 0 0, .slice none 0 0]).cells (grownCap w n 0 25 - n)) 25)) := fun ty => by
      have h := Lib.run_append_grow_zeros w 22 3 ty 25 i0 (.agg #[.slice none 0 0, .slice none 0 0]) .i64 .i64 Try.underlying22 Try.underlying3 hi hz0 none 0 0 [] (run_firstCells_none w.drew i0.size 0 0 0) n (by omega) (by omega) (by omega) (by omega)
        (by rw [hz2]; omega) (by rw [Nat.zero_add, hz2]; exact growslice_fits hz4 (by omega))
      rw [Nat.zero_add] at h
      exact h
    have hGn : n ≤ grownCap w n 0 25 := grownCap_ge w _ _ _
    have hGm : grownCap w n 0 25 ≤ maxLen := grownCap_le_maxLen w n 0 25 (by unfold maxLen; omega)
    have HO : Hid (OwnE w.heap.size ((w.alloc (.cells (Builtin.zeroCells #[.slice none 0 0, .slice none 0 0] n ++ Builtin.zeroCells #[.slice none 0 0, .slice none 0 0] (grownCap w n 0 25 - n)) 25)).drew) (.slice (some ⟨w.heap.size, 0, none⟩) 0 (grownCap w n 0 25)) []) := ⟨own_zeros w 25 #[.slice none 0 0, .slice none 0 0] 2 n (grownCap w n 0 25) rfl hGn hGm⟩
    generalize grownCap w n 0 25 = G at *
    have hG63 : G ≤ 9223372036854775807 := by unfold maxLen at hGm; omega
    go_enter Try.func40, Try.ntmps40
    go_wp2_with (at_builtin; refine Lib.wpList_append_run _ rfl _ _ _ _ rfl _ _ rfl rfl _ _ (hrz _) ?_)
    go_ret
    exact ⟨_, rfl, HO.out, ((Below.refl _ _).alloc (Nat.le_refl _) _).drew⟩

/-- A row of lists. -/
structure Rows2 (w : World) (g : Nat) (K : List (Value × List It)) : Prop where
  row : ∃ cur : Array Value, w.heap[g]? = some (.cells cur 22 (0, 0)) ∧ cur.toList = K.map (·.1)
theorem Rows2.cell {w : World} {g : Nat} {K : List (Value × List It)} (h : Rows2 w g K) (i : Nat) (x : Value × List It) (hx : K[i]? = some x) : w.cell? ⟨g, i, none⟩ = some x.1 := by
  obtain ⟨cur, h1, h2⟩ := h.row
  rw [row_cell h1, ← Array.getElem?_toList, h2, List.getElem?_map, hx]; rfl
theorem Rows2.keep {B : Nat} {w w' : World} {g : Nat} {K : List (Value × List It)} (h : Rows2 w g K) (hk : Keep 25 B w w') : Rows2 w' g K := by
  obtain ⟨cur, h1, h2⟩ := h.row
  exact ⟨cur, hk.typ _ _ _ _ (by decide) h1, h2⟩
def allIt (K : List (Value × List It)) : List It := K.flatMap (·.2)
theorem allIt_take {K : List (Value × List It)} {i : Nat} {x : Value × List It} (hx : K[i]? = some x) : allIt (K.take (i + 1)) = allIt (K.take i) ++ x.2 := by
  simp [allIt, List.take_add_one, hx]
theorem allIt_le (K : List (Value × List It)) (i : Nat) : (allIt (K.take i)).length ≤ (allIt K).length := by
  have : allIt K = allIt (K.take i) ++ allIt (K.drop i) := by simp only [allIt, ← List.flatMap_append, List.take_append_drop]
  rw [this, List.length_append]; omega

set_option maxHeartbeats 800000 in
set_option maxRecDepth 100000 in
theorem concatE_any {w : World} {g n : Nat} {K : List (Value × List It)} (hK : Rows2 w g K) (hn : K.length = n) (hn2 : n ≤ 1000) (hkey : ∀ x ∈ K, ListAt w.heap.size w x.1 x.2) (hs : (allIt K).length * 48 ≤ 140737488355328) :
    Calls Try.prog 29 #[.slice (some ⟨g, 0, none⟩) n n] w fun e w' => ∃ v, e = .returned v ∧ OwnE w.heap.size w' v (allIt K) ∧ Below w.heap.size w w' := by
  have HK : Hid (Rows2 w g K) := hK
  have HN : Hid (K.length = n) := hn
  have HA : Hid (∀ x ∈ K, ListAt w.heap.size w x.1 x.2) := hkey
  clear hK hn hkey
  go_enter Try.func29, Try.ntmps29
  go_wp2_with fail
  go_loopw [3, 11] (fun sz i wx => ∃ k : Nat, k ≤ n ∧ i = .int .i64 k ∧ sz = .int .i64 ((allIt (K.take k)).length : Nat) ∧ wx = w) (fun _ i _ => n - (intOf i).toNat)
  case atStart => exact ⟨0, by omega, rfl, by simp [allIt], rfl⟩
  case round =>
    obtain ⟨k, hk, rfl, rfl, hwr⟩ := hrel
    have hwr2 := hwr.symm
    subst hwr2
    by_cases hlt : k < n
    · have hz : (k : Int) < (n : Int) := by omega
      obtain ⟨x, hx⟩ : ∃ x, K[k]? = some x := ⟨_, List.getElem?_eq_getElem (by rw [HN.out]; exact hlt)⟩
      have k0 := HK.out.cell k x hx
      obtain ⟨a, c, e1⟩ := (HA.out x (List.mem_of_getElem? hx)).form
      rw [e1] at k0
      have HT : Hid (allIt (K.take (k + 1)) = allIt (K.take k) ++ x.2) := allIt_take hx
      have hle := allIt_le K (k + 1)
      rw [HT.out, List.length_append] at hle
      generalize allIt (K.take k) = T at *
      have hnn : ¬ (T.length : Int) + (x.2.length : Int) < 0 := by omega
      clear e1 hx
      go_wp2
      exact ⟨⟨k + 1, by omega, by go_num, by rw [HT.out, List.length_append]; go_num, by first | rfl | trivial⟩, by simp [intOf]; omega⟩
    · have hz : ¬ (k : Int) < (n : Int) := by omega
      have HE : Hid (K.take k = K) := List.take_of_length_le (by rw [HN.out]; omega)
      obtain ⟨N, hN⟩ : ∃ N, N = (allIt (K.take k)).length := ⟨_, rfl⟩
      have HNN : Hid (N = (allIt K).length) := by rw [Hid, hN, HE.out]
      rw [← hN]
      clear hN
      have hNs : N * 48 ≤ 140737488355328 := by rw [HNN.out]; exact hs
      go_wp2_with (go_at_call 40; refine (growE_any _ N hNs).mono ?_; rintro e w2 ⟨v2, rfl, hv2, hb2⟩
                   have HV2 : Hid _ := hv2
                   have HB2 : Hid _ := hb2
                   clear hv2 hb2)
      go_loopw [6, 27] (fun b i wx => ∃ j : Nat, j ≤ n ∧ i = .int .i64 j ∧ OwnE w.heap.size wx b (allIt (K.take j)) ∧ Keep 25 w.heap.size w wx) (fun _ i _ => n - (intOf i).toNat)
      case atStart => exact ⟨0, by omega, rfl, by simp only [List.take_zero, allIt, List.flatMap_nil]; exact HV2.out, Keep.of HB2.out (Nat.le_refl _)⟩
      case round =>
        obtain ⟨j, hj, rfl, hv, hkp⟩ := hrel
        have HV : Hid _ := hv
        have HKP : Hid _ := hkp
        clear hv hkp
        by_cases hlt : j < n
        · have hz : (j : Int) < (n : Int) := by omega
          obtain ⟨x, hx⟩ : ∃ x, K[j]? = some x := ⟨_, List.getElem?_eq_getElem (by rw [HN.out]; exact hlt)⟩
          have k0 := (HK.out.keep HKP.out).cell j x hx
          have HX : Hid (ListAt wr.heap.size wr x.1 x.2) := ((HA.out x (List.mem_of_getElem? hx)).below HKP.out.low).mono HKP.out.low.size
          have HT : Hid (allIt (K.take (j + 1)) = allIt (K.take j) ++ x.2) := allIt_take hx
          have hle := allIt_le K (j + 1)
          rw [HT.out, List.length_append] at hle
          have hle2 := Nat.le_trans (Nat.mul_le_mul_right 48 hle) hs
          have hwsz := HKP.out.low.size
          generalize allIt (K.take j) = T at *
          clear hx hle
          go_wp2_with (at_builtin; refine wpList_append_rows rfl _ _ rfl w.heap.size u6 _ _ x.2 rfl HV.out.own rfl HX.out hle2 hwsz ?_
                       intro v3 w3 hv3 hk3
                       have HV3 : Hid (OwnE w.heap.size w3 v3 (T ++ x.2)) := ⟨hv3⟩
                       have HK3 : Hid (Keep 25 w.heap.size w w3) := HKP.out.trans hk3
                       clear hv3 hk3)
          exact ⟨⟨j + 1, by omega, by go_num, by rw [HT.out]; exact HV3.out, HK3.out⟩, by simp [intOf]; omega⟩
        · have hz : ¬ (j : Int) < (n : Int) := by omega
          have HE2 : Hid (K.take j = K) := List.take_of_length_le (by rw [HN.out]; omega)
          have HR : Hid (OwnE w.heap.size wr u6 (allIt K)) := by have := HV.out; rw [HE2.out] at this; exact this
          go_wp2
          go_ret
          exact ⟨_, rfl, HR.out, HKP.out.low⟩
end Go.Proofs.Ytgifnaahahfhbab
