/- slices.Grow of nothing, slices.Concat, of bytes. -/
import Derived.Test.YtgifnaahahfhbaaReader
import Derived.Lib.AppendZerosOnto
namespace Go.Proofs.Ytgifnaahahfhbaa
open Go.RowKit

theorem own_zeros (w : World) (e : TypeId) (C : Array Value) (k n G : Nat) (hz : C.size = k) (hG : n ≤ G) (hG2 : G ≤ maxLen) :
    (w.alloc (.cells (Builtin.zeroCells C n ++ Builtin.zeroCells C (G - n)) e)).drew.ownsRow w.heap.size e k (.slice (some ⟨w.heap.size, 0, none⟩) 0 G) 0 [] := by
  refine ⟨by simp, .inr ⟨w.heap.size, G, _, rfl, Nat.le_refl _, heap_alloc_last w _, Nat.zero_le _, hG2, ?_, by simp⟩⟩
  simp [Builtin.zeroCells, hz]
  rw [← Nat.add_mul]
  congr 1
  omega

set_option maxHeartbeats 800000 in
set_option maxRecDepth 100000 in
theorem growB_any (w : World) (n : Nat) (hn : n ≤ 140737488355328) :
    Calls Try.prog 70 #[.slice none 0 0, .int .i64 n] w fun e w' => ∃ v, e = .returned v ∧ NewKey w.heap.size w' v [] ∧ Below w.heap.size w w' := by
  obtain ⟨i0, hi, hz0, hz1, hz2⟩ := info5'
  by_cases h0 : n = 0
  · subst h0
    go_enter Try.func70, Try.ntmps70
    go_wp2
    go_ret
    exact ⟨_, rfl, NewKey.nil _ _, Below.refl _ _⟩
  · have hz : (0 : Int) < (n : Int) := by omega
    have hz3 : ¬ (n : Int) < 0 := by omega
    have hz4 : 0 < n := by omega
    have hrz : ∀ ty, (Builtin.append_ #[39, 3] ty #[.slice none 0 0, .int .i64 (n : Int)]).run Try.prog w =
        .ok (.slice (some ⟨w.heap.size, 0, none⟩) n (grownCap w n 0 5)) (w.drew.alloc (.cells (([] : List Value).toArray ++ Builtin.zeroCells (Value.int .u8 0).cells n ++ Builtin.zeroCells (Value.int .u8 0).cells (grownCap w n 0 5 - n)) 5)) := fun ty => by
      have h := Lib.run_append_grow_zeros w 39 3 ty 5 i0 (.int .u8 0) .i64 .i64 Try.underlying39 Try.underlying3 hi hz0 none 0 0 [] (run_firstCells_none w.drew i0.size 0 0 0) n (by omega) (by omega) (by omega) (by omega)
        (by rw [hz2]; omega) (by rw [Nat.zero_add, hz2]; exact growslice_fits hz4 (by omega))
      rw [Nat.zero_add] at h
      exact h
    have hGn : n ≤ grownCap w n 0 5 := grownCap_ge w _ _ _
    have hGm : grownCap w n 0 5 ≤ maxLen := grownCap_le_maxLen w n 0 5 (by unfold maxLen; omega)
    have HO : Hid (NewKey w.heap.size ((w.alloc (.cells (Builtin.zeroCells #[.int .u8 0] n ++ Builtin.zeroCells #[.int .u8 0] (grownCap w n 0 5 - n)) 5)).drew) (.slice (some ⟨w.heap.size, 0, none⟩) 0 (grownCap w n 0 5)) []) := ⟨own_zeros w 5 #[.int .u8 0] 1 n (grownCap w n 0 5) rfl hGn hGm, by decide⟩
    generalize grownCap w n 0 5 = G at *
    have hG63 : G ≤ 9223372036854775807 := by unfold maxLen at hGm; omega
    go_enter Try.func70, Try.ntmps70
    go_wp2_with (at_builtin; refine Lib.wpList_append_run _ rfl _ _ _ _ rfl _ _ rfl rfl _ _ (hrz _) ?_)
    go_ret
    exact ⟨_, rfl, HO.out, ((Below.refl _ _).alloc (Nat.le_refl _) _).drew⟩

/-- A row of slices of bytes. -/
structure Strs (w : World) (g : Nat) (K : List (Value × Key)) : Prop where
  row : ∃ cur : Array Value, w.heap[g]? = some (.cells cur 39 (0, 0)) ∧ cur.toList = K.map (·.1)
theorem Strs.cell {w : World} {g : Nat} {K : List (Value × Key)} (h : Strs w g K) (i : Nat) (x : Value × Key) (hx : K[i]? = some x) : w.cell? ⟨g, i, none⟩ = some x.1 := by
  obtain ⟨cur, h1, h2⟩ := h.row
  rw [row_cell h1, ← Array.getElem?_toList, h2, List.getElem?_map, hx]; rfl
theorem Strs.keeps {B : Nat} {w w' : World} {g : Nat} {K : List (Value × Key)} (h : Strs w g K) (hk : Keeps B w w') : Strs w' g K := by
  obtain ⟨cur, h1, h2⟩ := h.row
  exact ⟨cur, hk.typ _ _ _ _ (by decide) h1, h2⟩
def allOf (K : List (Value × Key)) : Key := K.flatMap (·.2)
theorem allOf_take {K : List (Value × Key)} {i : Nat} {x : Value × Key} (hx : K[i]? = some x) : allOf (K.take (i + 1)) = allOf (K.take i) ++ x.2 := by
  simp [allOf, List.take_add_one, hx]
theorem allOf_le (K : List (Value × Key)) (i : Nat) : (allOf (K.take i)).length ≤ (allOf K).length := by
  have : allOf K = allOf (K.take i) ++ allOf (K.drop i) := by simp only [allOf, ← List.flatMap_append, List.take_append_drop]
  rw [this, List.length_append]; omega

set_option maxHeartbeats 800000 in
set_option maxRecDepth 100000 in
theorem concatB_any {w : World} {g n : Nat} {K : List (Value × Key)} (hK : Strs w g K) (hn : K.length = n) (hn2 : n ≤ 1000) (hkey : ∀ x ∈ K, KeyAt w x.1 x.2) (hs : (allOf K).length ≤ 140737488355328) :
    Calls Try.prog 63 #[.slice (some ⟨g, 0, none⟩) n n] w fun e w' => ∃ v, e = .returned v ∧ NewKey w.heap.size w' v (allOf K) ∧ Below w.heap.size w w' := by
  have HK : Hid (Strs w g K) := hK
  have HN : Hid (K.length = n) := hn
  have HA : Hid (∀ x ∈ K, KeyAt w x.1 x.2) := hkey
  clear hK hn hkey
  go_enter Try.func63, Try.ntmps63
  go_wp2_with fail
  go_loopw [3, 11] (fun sz i wx => ∃ k : Nat, k ≤ n ∧ i = .int .i64 k ∧ sz = .int .i64 ((allOf (K.take k)).length : Nat) ∧ wx = w) (fun _ i _ => n - (intOf i).toNat)
  case atStart => exact ⟨0, by omega, rfl, by simp [allOf], rfl⟩
  case round =>
    obtain ⟨k, hk, rfl, rfl, hwr⟩ := hrel
    have hwr2 := hwr.symm
    subst hwr2
    by_cases hlt : k < n
    · have hz : (k : Int) < (n : Int) := by omega
      obtain ⟨x, hx⟩ : ∃ x, K[k]? = some x := ⟨_, List.getElem?_eq_getElem (by rw [HN.out]; exact hlt)⟩
      have k0 := HK.out.cell k x hx
      obtain ⟨⟨a, c, e1, _⟩, hsx⟩ := HA.out x (List.mem_of_getElem? hx)
      rw [e1] at k0
      have HT : Hid (allOf (K.take (k + 1)) = allOf (K.take k) ++ x.2) := allOf_take hx
      have hle := allOf_le K (k + 1)
      rw [HT.out, List.length_append] at hle
      generalize allOf (K.take k) = T at *
      have hnn : ¬ (T.length : Int) + (x.2.length : Int) < 0 := by omega
      clear e1 hx
      go_wp2
      exact ⟨⟨k + 1, by omega, by go_num, by rw [HT.out, List.length_append]; go_num, by first | rfl | trivial⟩, by simp [intOf]; omega⟩
    · have hz : ¬ (k : Int) < (n : Int) := by omega
      have HE : Hid (K.take k = K) := List.take_of_length_le (by rw [HN.out]; omega)
      obtain ⟨N, hN⟩ : ∃ N, N = (allOf (K.take k)).length := ⟨_, rfl⟩
      have HNN : Hid (N = (allOf K).length) := by rw [Hid, hN, HE.out]
      rw [← hN]
      clear hN
      have hNs : N ≤ 140737488355328 := by rw [HNN.out]; exact hs
      go_wp2_with (go_at_call 70; refine (growB_any _ N hNs).mono ?_; rintro e w2 ⟨v2, rfl, hv2, hb2⟩
                   have HV2 : Hid _ := hv2
                   have HB2 : Hid _ := hb2
                   clear hv2 hb2)
      go_loopw [6, 27] (fun b i wx => ∃ j : Nat, j ≤ n ∧ i = .int .i64 j ∧ NewKey w.heap.size wx b (allOf (K.take j)) ∧ Keeps w.heap.size w wx) (fun _ i _ => n - (intOf i).toNat)
      case atStart => exact ⟨0, by omega, rfl, by simp only [List.take_zero, allOf, List.flatMap_nil]; exact HV2.out, Keeps.of HB2.out (Nat.le_refl _)⟩
      case round =>
        obtain ⟨j, hj, rfl, hv, hkp⟩ := hrel
        have HV : Hid _ := hv
        have HKP : Hid _ := hkp
        clear hv hkp
        by_cases hlt : j < n
        · have hz : (j : Int) < (n : Int) := by omega
          obtain ⟨x, hx⟩ : ∃ x, K[j]? = some x := ⟨_, List.getElem?_eq_getElem (by rw [HN.out]; exact hlt)⟩
          have k0 := (HK.out.keeps HKP.out).cell j x hx
          have HX : Hid (KeyAt wr x.1 x.2) := (((HA.out x (List.mem_of_getElem? hx)).in).below HKP.out.low).at HKP.out.low.size
          have HT : Hid (allOf (K.take (j + 1)) = allOf (K.take j) ++ x.2) := allOf_take hx
          have hle := allOf_le K (j + 1)
          rw [HT.out, List.length_append] at hle
          have hle2 := Nat.le_trans hle hs
          have hwsz := HKP.out.low.size
          generalize allOf (K.take j) = T at *
          clear hx hle
          go_wp2_with (at_builtin; refine wpList_append_key rfl _ _ rfl w.heap.size u6 _ _ x.2 rfl HV.out rfl HX.out hle2 hwsz ?_
                       intro v3 w3 hv3 hk3
                       have HV3 : Hid _ := hv3
                       have HK3 : Hid (Keeps w.heap.size w w3) := HKP.out.trans hk3
                       clear hv3 hk3)
          exact ⟨⟨j + 1, by omega, by go_num, by rw [HT.out]; exact HV3.out, HK3.out⟩, by simp [intOf]; omega⟩
        · have hz : ¬ (j : Int) < (n : Int) := by omega
          have HE2 : Hid (K.take j = K) := List.take_of_length_le (by rw [HN.out]; omega)
          have HR : Hid (NewKey w.heap.size wr u6 (allOf K)) := by have := HV.out; rw [HE2.out] at this; exact this
          go_wp2
          go_ret
          exact ⟨_, rfl, HR.out, HKP.out.low⟩
end Go.Proofs.Ytgifnaahahfhbaa
