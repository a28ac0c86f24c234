/- Comparisons; the search; slices.Clone. -/
import Derived.Test.YtejenfcfngjaaaaMem
namespace Go.Proofs.Ytejenfcfngjaaaa
open Go.RowKit

theorem nan_any (w : World) (x : Int) : Calls Try.prog 32 #[.int .i64 x] w fun e w' => e = .returned (.bool false) ∧ w' = w := by
  go_enter Try.func32, Try.ntmps32
  go_wp2
  go_ret
  exact ⟨by simp, rfl⟩
theorem snan_any (w : World) (x : Int) : Calls Try.prog 34 #[.int .i64 x] w fun e w' => e = .returned (.bool false) ∧ w' = w := by
  go_enter Try.func34, Try.ntmps34
  go_wp2
  go_ret
  exact ⟨by simp, rfl⟩
theorem less_any (w : World) (x y : Int) : Calls Try.prog 33 #[.int .i64 x, .int .i64 y] w fun e w' => e = .returned (.bool (decide (x < y))) ∧ w' = w := by
  go_enter Try.func33, Try.ntmps33
  go_wp2_with (go_at_call 32; refine (nan_any _ _).mono ?_; rintro r w2 ⟨rfl, hw2⟩; obtain rfl := hw2.symm)
  go_ret
  exact ⟨by simp, rfl⟩
/-- What cmp.Compare says. -/
def cmpI (x y : Int) : Int := if x < y then -1 else if y < x then 1 else 0
theorem compare_any (w : World) (x y : Int) : Calls Try.prog 30 #[.int .i64 x, .int .i64 y] w fun e w' => e = .returned (.int .i64 (cmpI x y)) ∧ w' = w := by
  by_cases h1 : x < y
  · have HR : Hid (cmpI x y = -1) := by simp [Hid, cmpI, h1]
    go_enter Try.func30, Try.ntmps30
    go_wp2_with (go_at_call 32; refine (nan_any _ _).mono ?_; rintro r w2 ⟨rfl, hw2⟩; obtain rfl := hw2.symm)
    go_ret
    exact ⟨ret_int HR.out.symm, rfl⟩
  · by_cases h2 : y < x
    · have HR : Hid (cmpI x y = 1) := by simp [Hid, cmpI, h1, h2]
      have h3 : x > y := h2
      go_enter Try.func30, Try.ntmps30
      go_wp2_with (go_at_call 32; refine (nan_any _ _).mono ?_; rintro r w2 ⟨rfl, hw2⟩; obtain rfl := hw2.symm)
      go_ret
      exact ⟨ret_int HR.out.symm, rfl⟩
    · have HR : Hid (cmpI x y = 0) := by simp [Hid, cmpI, h1, h2]
      have h3 : ¬ x > y := h2
      go_enter Try.func30, Try.ntmps30
      go_wp2_with (go_at_call 32; refine (nan_any _ _).mono ?_; rintro r w2 ⟨rfl, hw2⟩; obtain rfl := hw2.symm)
      go_ret
      exact ⟨ret_int HR.out.symm, rfl⟩

/-- Where a number is to stand. -/
structure PlaceI (T : List Int) (x : Int) (p : Nat) : Prop where
  le : p ≤ T.length
  lo : ∀ n y, n < p → T[n]? = some y → y < x
  hi : ∀ n y, p ≤ n → T[n]? = some y → x ≤ y
structure PlaceIPost (w : World) (T : List Int) (x : Int) (r : Ending) (w' : World) : Prop where
  is : ∃ (p : Nat) (b : Bool), r = .returned (.tuple #[.int .i64 (p : Int), .bool b]) ∧ PlaceI T x p ∧ w' = w
theorem rise_at {T : List Int} (hr : T.Pairwise (· < ·)) {i j : Nat} {a x : Int} (hij : i ≤ j) (ha : T[i]? = some a) (hx : T[j]? = some x) : a ≤ x := by
  obtain ⟨l1, e1⟩ := List.getElem?_eq_some_iff.1 ha
  obtain ⟨l2, e2⟩ := List.getElem?_eq_some_iff.1 hx
  subst e1 e2
  rcases Nat.lt_or_eq_of_le hij with hl | hl
  · exact Int.le_of_lt (List.pairwise_iff_getElem.1 hr i j l1 l2 hl)
  · subst hl
    exact Int.le_refl _
set_option maxHeartbeats 1600000 in
set_option maxRecDepth 100000 in
theorem search_any {w : World} {v : Value} {T : List Int} {x : Int} (hT : IntsAt w v T) (hr : T.Pairwise (· < ·)) (hsh : T.length ≤ 140737488355328) :
    Calls Try.prog 31 #[v, .int .i64 x] w fun r w' => PlaceIPost w T x r w' := by
  obtain ⟨a, c, rfl⟩ := hT.form
  have HT : Hid (IntsAt w (.slice a T.length c) T) := hT
  have HR : Hid (∀ i j (a x : Int), i ≤ j → T[i]? = some a → T[j]? = some x → a ≤ x) := fun i j a x hij ha hx => rise_at hr hij ha hx
  clear hT hr
  go_enter Try.func31, Try.ntmps31
  go_wp2_with fail
  go_loop [7, 8] (fun vi vj => ∃ i j : Nat, i ≤ j ∧ j ≤ T.length ∧ vi = .int .i64 i ∧ vj = .int .i64 j ∧ (∀ n y, n < i → T[n]? = some y → y < x) ∧ (∀ n y, j ≤ n → T[n]? = some y → x ≤ y)) (fun vi vj => (intOf vj).toNat - (intOf vi).toNat)
  case atStart => exact ⟨0, T.length, by omega, Nat.le_refl _, rfl, rfl, fun n y h => absurd h (Nat.not_lt_zero _), fun n y hn hy => by have := (List.getElem?_eq_some_iff.1 hy).1; omega⟩
  case round =>
    obtain ⟨i, j, hij, hjl, rfl, rfl, hlo, hhi⟩ := hrel
    have HLO : Hid _ := hlo
    have HHI : Hid _ := hhi
    clear hlo hhi
    by_cases hlt : i < j
    · have hz : (i : Int) < (j : Int) := by omega
      obtain ⟨h, hh⟩ : ∃ h : Nat, h = (i + j) / 2 := ⟨_, rfl⟩
      have hh1 : ((i : Int) + (j : Int)) / 2 = (h : Int) := by omega
      have hh2 : h < j := by omega
      have hh3 : i ≤ h := by omega
      have hh4 : (h : Int) < (T.length : Int) := by omega
      obtain ⟨e, he⟩ : ∃ e, T[h]? = some e := ⟨_, List.getElem?_eq_getElem (by omega)⟩
      obtain ⟨g, off, rfl, hg, k0⟩ := ints_cell HT.out he
      have HE : Hid (T[h]? = some e) := he
      clear hh he
      by_cases hk : e < x
      · have HLO2 : Hid (∀ n y, n < h + 1 → T[n]? = some y → y < x) := fun n y hn hy => by
          have h1 := HR.out n h y e (by omega) hy HE.out
          omega
        go_wp2_with (go_at_call 33; refine (less_any _ _ _).mono ?_; rintro r w2 ⟨rfl, hw2⟩; obtain rfl := hw2.symm)
        exact ⟨⟨h + 1, j, by omega, hjl, by go_num, rfl, HLO2.out, HHI.out⟩, by simp [intOf]; omega⟩
      · have HHI2 : Hid (∀ n y, h ≤ n → T[n]? = some y → x ≤ y) := fun n y hn hy => by
          have h1 := HR.out h n e y hn HE.out hy
          omega
        go_wp2_with (go_at_call 33; refine (less_any _ _ _).mono ?_; rintro r w2 ⟨rfl, hw2⟩; obtain rfl := hw2.symm)
        exact ⟨⟨i, h, by omega, by omega, rfl, by go_num, HLO.out, HHI2.out⟩, by simp [intOf]; omega⟩
    · have hz : ¬ (i : Int) < (j : Int) := by omega
      obtain rfl : i = j := by omega
      have HF : Hid (PlaceI T x i) := ⟨hjl, HLO.out, HHI.out⟩
      by_cases hil : i < T.length
      · have hiz : (i : Int) < (T.length : Int) := by omega
        obtain ⟨e, he⟩ : ∃ e, T[i]? = some e := ⟨_, List.getElem?_eq_getElem hil⟩
        obtain ⟨g, off, rfl, hg, k0⟩ := ints_cell HT.out he
        clear he
        by_cases hex : e = x
        · subst hex
          go_wp2_with (go_at_call 34; refine (snan_any _ _).mono ?_; rintro r w2 ⟨rfl, hw2⟩; obtain rfl := hw2.symm)
          go_ret2
          exact ⟨i, _, rfl, HF.out, rfl⟩
        · have hex2 : (e == x) = false := by simpa using hex
          go_wp2_with (go_at_call 34; refine (snan_any _ _).mono ?_; rintro r w2 ⟨rfl, hw2⟩; obtain rfl := hw2.symm)
          go_ret2
          exact ⟨i, _, rfl, HF.out, rfl⟩
      · have hiz : ¬ (i : Int) < (T.length : Int) := by omega
        go_wp2
        go_ret2
        exact ⟨i, false, rfl, HF.out, rfl⟩
set_option maxRecDepth 100000 in
theorem clone_any {w : World} {v : Value} {L : List Int} (h : IntsAt w v L) (hs : L.length * 8 ≤ 140737488355328) :
    Calls Try.prog 20 #[v] w fun e w' => ∃ v', e = .returned v' ∧ NewI w.heap.size w' v' L ∧ Below w.heap.size w w' := by
  obtain ⟨i0, hi, hz0, hz1, hz2⟩ := infoI'
  obtain ⟨a, c, rfl, hc, hn, hcell⟩ := h.is
  have q22 : ∀ (w : World) (a : Option Addr) (n c n' c' : Nat), (binOp .eql 26 (.slice a n c) (.slice none n' c')).run Try.prog w = .ok (.bool a.isNone) w := fun w a n c n' c' => Lib.run_eql_slice_nil w _ _ a n c n' c' Try.underlying26
  cases a with
  | none =>
    obtain rfl := hn rfl
    have h0 : L = [] := List.eq_nil_of_length_eq_zero (by simpa using hc)
    subst h0
    go_enter Try.func20, Try.ntmps20
    go_wp2
    go_ret
    exact ⟨_, rfl, World.ownsRow_nil _ _ _ _, Below.refl _ _⟩
  | some ad =>
    have HC : Hid (∀ (o : Obj) (j : Nat) (u : Value), (L.map encI)[j]? = some u → (w.alloc o).cell? (ad.add j) = some u) := by
      intro o j u hj
      obtain ⟨g, off, e1, e2, e3⟩ := hcell j u hj
      cases e1
      rw [add_at, (below_new w o).cell e2]
      exact e3
    have HO : Hid (∀ u ∈ L.map encI, u.oneCell' = true) := fun u hu => by
      obtain ⟨p, _, rfl⟩ := List.mem_map.1 hu; rfl
    clear hc hn hcell h
    go_enter Try.func20, Try.ntmps20
    go_wp2_with (at_builtin; refine wpList_append_own _ rfl _ _ 26 rfl w.heap.size 3 i0 _ 1 8 Try.underlying26 hi hz0 hz1 hz2 rfl (by decide) _ _ _ rfl (World.ownsRow_made w #[] 0 (Nat.le_refl _) (Nat.zero_le _) (by simp)) ad L.length c (L.map encI) rfl (by simp) (HC.out _) HO.out (by unfold maxLen; omega) (by omega) (by simp) ?_
                 intro v' w' hown hgr hiff
                 have HOW : Hid _ := hown
                 have HGR : Hid _ := hgr
                 clear hown hgr hiff)
    go_ret
    refine ⟨_, rfl, ?_, (below_new w _).grown HGR.out (by simp) (fun k hk => by cases hk; exact Nat.le_refl _)⟩
    have := HOW.out
    simp only [Nat.zero_add, List.nil_append] at this
    exact this
end Go.Proofs.Ytejenfcfngjaaaa
