/- slices.BinarySearch of numbers that rise; oneNeeds. -/
import Derived.Test.YtcfmcakdgamdmaaCompact
namespace Go.Proofs.Ytcfmcakdgamdmaa
open Go.RowKit

theorem lessU_any (w : World) (a x : Int) : Calls Try.prog 57 #[.int .u64 a, .int .u64 x] w fun e w' => e = .returned (.bool (decide (a < x))) ∧ w' = w := by
  go_enter Try.func57, Try.ntmps57
  go_wp2
  go_ret
  exact ⟨rfl, rfl⟩
/-- A place among numbers. -/
structure PlaceU (T : List Int) (x : Int) (p : Nat) : Prop where
  le : p ≤ T.length
  low : ∀ n a, n < p → T[n]? = some a → a < x
  high : ∀ n a, p ≤ n → T[n]? = some a → x ≤ a
structure PlaceUPost (w : World) (T : List Int) (x : Int) (r : Ending) (w' : World) : Prop where
  is : ∃ (p : Nat) (b : Bool), r = .returned (.tuple #[.int .i64 (p : Int), .bool b]) ∧ PlaceU T x p ∧ w' = w
theorem rise_at {T : List Int} (h : T.Pairwise (· ≤ ·)) {i j : Nat} {a x : Int} (hij : i ≤ j) (ha : T[i]? = some a) (hx : T[j]? = some x) : a ≤ x := by
  obtain ⟨l1, rfl⟩ := List.getElem?_eq_some_iff.1 ha
  obtain ⟨l2, rfl⟩ := List.getElem?_eq_some_iff.1 hx
  rcases Nat.lt_or_ge i j with hl | hl
  · exact List.pairwise_iff_getElem.1 h i j l1 l2 hl
  · obtain rfl : i = j := by omega
    exact Int.le_refl _
set_option maxHeartbeats 1600000 in
set_option maxRecDepth 100000 in
theorem searchU_any {w : World} {v : Value} {T : List Int} {x : Int} (hT : U64At w v T) (hr : T.Pairwise (· ≤ ·)) (hsh : T.length ≤ 140737488355328) :
    Calls Try.prog 45 #[v, .int .u64 x] w fun r w' => PlaceUPost w T x r w' := by
  obtain ⟨a, c, rfl⟩ := hT.form
  have HT : Hid (U64At w (.slice a T.length c) T) := hT
  have HR : Hid (∀ i j (a x : Int), i ≤ j → T[i]? = some a → T[j]? = some x → a ≤ x) := fun i j a x hij ha hx => rise_at hr hij ha hx
  clear hT hr
  go_enter Try.func45, Try.ntmps45
  go_wp2_with fail
  go_loop [7, 8] (fun vi vj => ∃ i j : Nat, i ≤ j ∧ j ≤ T.length ∧ vi = .int .i64 i ∧ vj = .int .i64 j ∧ (∀ n y, n < i → T[n]? = some y → y < x) ∧ (∀ n y, j ≤ n → T[n]? = some y → x ≤ y)) (fun vi vj => (intOf vj).toNat - (intOf vi).toNat)
  case atStart => exact ⟨0, T.length, by omega, Nat.le_refl _, rfl, rfl, fun n y h => absurd h (Nat.not_lt_zero _), fun n y hn hy => by have := (List.getElem?_eq_some_iff.1 hy).1; omega⟩
  case round =>
    obtain ⟨i, j, hij, hjl, rfl, rfl, hlo, hhi⟩ := hrel
    have HLO : Hid _ := hlo
    have HHI : Hid _ := hhi
    clear hlo hhi
    by_cases hlt : i < j
    · have hz : (i : Int) < (j : Int) := by omega
      obtain ⟨h, hh⟩ : ∃ h : Nat, h = (i + j) / 2 := ⟨_, rfl⟩
      have hh1 : ((i : Int) + (j : Int)) / 2 = (h : Int) := by omega
      have hh2 : h < j := by omega
      have hh3 : i ≤ h := by omega
      have hh4 : (h : Int) < (T.length : Int) := by omega
      obtain ⟨e, he⟩ : ∃ e, T[h]? = some e := ⟨_, List.getElem?_eq_getElem (by omega)⟩
      obtain ⟨g, off, rfl, hg, k0⟩ := u64s_cell HT.out he
      have HE : Hid (T[h]? = some e) := he
      clear hh he
      by_cases hk : e < x
      · have HLO2 : Hid (∀ n y, n < h + 1 → T[n]? = some y → y < x) := fun n y hn hy => by
          have h1 := HR.out n h y e (by omega) hy HE.out
          omega
        go_wp2_with (go_at_call 57; refine (lessU_any _ _ _).mono ?_; rintro r w2 ⟨rfl, hw2⟩; obtain rfl := hw2.symm)
        exact ⟨⟨h + 1, j, by omega, hjl, by go_num, rfl, HLO2.out, HHI.out⟩, by simp [intOf]; omega⟩
      · have HHI2 : Hid (∀ n y, h ≤ n → T[n]? = some y → x ≤ y) := fun n y hn hy => by
          have h1 := HR.out h n e y hn HE.out hy
          omega
        go_wp2_with (go_at_call 57; refine (lessU_any _ _ _).mono ?_; rintro r w2 ⟨rfl, hw2⟩; obtain rfl := hw2.symm)
        exact ⟨⟨i, h, by omega, by omega, rfl, by go_num, HLO.out, HHI2.out⟩, by simp [intOf]; omega⟩
    · have hz : ¬ (i : Int) < (j : Int) := by omega
      obtain rfl : i = j := by omega
      have HF : Hid (PlaceU T x i) := ⟨hjl, HLO.out, HHI.out⟩
      by_cases hil : i < T.length
      · have hiz : (i : Int) < (T.length : Int) := by omega
        obtain ⟨e, he⟩ : ∃ e, T[i]? = some e := ⟨_, List.getElem?_eq_getElem hil⟩
        obtain ⟨g, off, rfl, hg, k0⟩ := u64s_cell HT.out he
        clear he
        by_cases hex : e = x
        · subst hex
          go_wp2
          go_ret2
          exact ⟨i, _, rfl, HF.out, rfl⟩
        · have hex2 : (e == x) = false := by simpa using hex
          go_wp2
          go_ret2
          exact ⟨i, _, rfl, HF.out, rfl⟩
      · have hiz : ¬ (i : Int) < (T.length : Int) := by omega
        go_wp2
        go_ret2
        exact ⟨i, false, rfl, HF.out, rfl⟩
theorem any_place {T : List Int} (hr : T.Pairwise (· ≤ ·)) {x : Lf} {p : Nat} (h : PlaceU T x.b p) : anyL T x = match T[p]? with
    | some e => needsL e x
    | none => false := by
  unfold anyL
  cases hp : T[p]? with
  | none =>
    rw [List.any_eq_false]
    intro g hg
    obtain ⟨i, hi⟩ := List.getElem?_of_mem hg
    have hl := (List.getElem?_eq_some_iff.1 hi).1
    have hpl := List.getElem?_eq_none_iff.1 hp
    have := h.low i g (by omega) hi
    simp [needsL]
    omega
  | some e =>
    show _ = needsL e x
    by_cases hn : needsL e x = true
    · rw [hn, List.any_eq_true]
      exact ⟨e, List.mem_of_getElem? hp, hn⟩
    · have hn' : needsL e x = false := by simpa using hn
      rw [hn', List.any_eq_false]
      intro g hg
      obtain ⟨i, hi⟩ := List.getElem?_of_mem hg
      have he := h.high p e (Nat.le_refl _) hp
      simp [needsL] at hn' ⊢
      have h1 := hn' he
      intro hb
      rcases Nat.lt_or_ge i p with hl | hl
      · have := h.low i g hl hi
        omega
      · have := rise_at hr hl hp hi
        omega
set_option maxHeartbeats 1600000 in
set_option maxRecDepth 100000 in
theorem oneNeeds_any {w : World} {v : Value} {T : List Int} (x : Lf) (hT : U64At w v T) (hr : T.Pairwise (· ≤ ·)) (hsh : T.length ≤ 140737488355328) :
    Calls Try.prog 34 #[v, aggL x] w fun r w' => r = .returned (.bool (anyL T x)) ∧ Below w.heap.size w w' := by
  obtain ⟨W, hW⟩ : ∃ W, W = w.alloc (.cells #[.int .i64 x.p, .int .u64 x.b, .int .u64 x.d] 34) := ⟨_, rfl⟩
  have hx : W.heap[w.heap.size]? = some (.cells #[.int .i64 x.p, .int .u64 x.b, .int .u64 x.d] 34 (0, 0)) := by rw [hW]; exact heap_alloc_last w _
  have hb : Below w.heap.size w W := by rw [hW]; exact below_new w _
  have x0 : W.cell? ⟨w.heap.size, 0, none⟩ = some (.int .i64 x.p) := row_cell hx 0
  have x1 : W.cell? ⟨w.heap.size, 1, none⟩ = some (.int .u64 x.b) := row_cell hx 1
  have x2 : W.cell? ⟨w.heap.size, 2, none⟩ = some (.int .u64 x.d) := row_cell hx 2
  have hxl : w.heap.size < W.heap.size := (Array.getElem?_eq_some_iff.1 hx).1
  have HTW : Hid (U64At W v T) := hT.here hb
  have HSE := searchU_any (x := x.b) HTW.out hr hsh
  have HAP : Hid (∀ p, PlaceU T x.b p → anyL T x = match T[p]? with
    | some e => needsL e x
    | none => false) := fun p hp => any_place hr hp
  have HB : Hid _ := hb
  obtain ⟨a, c, rfl⟩ := hT.form
  clear hT hr hx hb
  unfold aggL
  go_enter Try.func34, Try.ntmps34
  go_upto_region 1 with fail
  rw [← hW]
  clear hW
  go_wp2_with (go_at_call 45; refine HSE.mono ?_; rintro r w2 ⟨p, bb, rfl, hp, hw2⟩; obtain rfl := hw2.symm; have HP : Hid _ := hp; clear hp)
  have hpl := HP.out.le
  have HAE := HAP.out p HP.out
  by_cases hlt : p < T.length
  · have hltz : (p : Int) < (T.length : Int) := by omega
    obtain ⟨e, he⟩ : ∃ e, T[p]? = some e := ⟨_, List.getElem?_eq_getElem hlt⟩
    obtain ⟨g, off, rfl, hg, k0⟩ := u64s_cell HTW.out he
    rw [he] at HAE
    have HA : Hid (anyL T x = needsL e x) := HAE
    have HN : Hid (∀ W', Calls Try.prog 31 #[.int .u64 e, .agg #[.int .i64 x.p, .int .u64 x.b, .int .u64 x.d]] W' fun r w' => r = .returned (.bool (needsL e x)) ∧ Below W'.heap.size W' w') := fun W' => needs_any W' e x
    clear he HAE HAP
    go_region_held_law (fun W' => W'.cell? ⟨w.heap.size, 0, none⟩ = some (.int .i64 x.p) ∧ W'.cell? ⟨w.heap.size, 1, none⟩ = some (.int .u64 x.b) ∧ W'.cell? ⟨w.heap.size, 2, none⟩ = some (.int .u64 x.d) ∧ W'.cell? ⟨g, off + p, none⟩ = some (.int .u64 e)) (first | go_keep | (refine ⟨?_, ?_, ?_, ?_⟩ <;> assumption))
      (
        (go_at_call 31
         refine (HN.out _).mono ?_
         rintro r w3 ⟨rfl, hb3⟩
         have y0 := (hb3.cell (p := ⟨w.heap.size, 0, none⟩) hxl).trans x0
         have y1 := (hb3.cell (p := ⟨w.heap.size, 1, none⟩) hxl).trans x1
         have y2 := (hb3.cell (p := ⟨w.heap.size, 2, none⟩) hxl).trans x2
         have y3 := (hb3.cell (p := ⟨g, off + p, none⟩) hg).trans k0
         have HB3 : Hid _ := hb3
         clear hb3))
    go_wp2_with fail
    go_ret
    exact ⟨by rw [HA.out]; rfl, Below.trans (below_drew HB.out) (Below.mono HB3.out (Below.size (below_drew HB.out)))⟩
  · have hltz : ¬ (p : Int) < (T.length : Int) := by omega
    rw [List.getElem?_eq_none (by omega)] at HAE
    have HA : Hid (anyL T x = false) := HAE
    clear HAE HAP
    go_quiet (fail)
    go_wp2_with fail
    go_ret
    exact ⟨by rw [HA.out]; rfl, below_draws HB.out _⟩
end Go.Proofs.Ytcfmcakdgamdmaa
