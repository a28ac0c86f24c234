/- slices.Clone and slices.Sort of numbers; numbered. -/
import Derived.Test.YtaehchijeinloaaReads
import Derived.Test.YtaehchijeinloaaShelf
import Derived.Sort.OwnSorted
namespace Go.Proofs.Ytaehchijeinloaa
open Go.RowKit Go.Sort Go.Shelf

theorem oneI (ps : List Int) : ∀ u ∈ ps.map encI, u.oneCell' = true := fun u hu => by
  obtain ⟨p, _, rfl⟩ := List.mem_map.1 hu; rfl
/-- A list of numbers of new memory. -/
structure NewInts (base : Nat) (w : World) (v : Value) (ps : List Int) : Prop where
  own : w.ownsRow base 3 1 v ps.length (ps.map encI)
theorem NewInts.here {base : Nat} {w w' : World} {v : Value} {ps : List Int} (h : NewInts base w v ps) (hb : Below w.heap.size w w') : NewInts base w' v ps :=
  ⟨own_same h.own fun b _ hl => hb.block b hl⟩
theorem NewInts.mono {base base' : Nat} {w : World} {v : Value} {ps : List Int} (h : NewInts base w v ps) (hb : base' ≤ base) : NewInts base' w v ps := ⟨own_mono h.own hb⟩
theorem NewInts.ints {base : Nat} {w : World} {v : Value} {ps : List Int} (h : NewInts base w v ps) (hs : ps.length * 8 ≤ 140737488355328) (hf : ∀ p ∈ ps, -9223372036854775808 ≤ p ∧ p ≤ 9223372036854775807) : IntsAt w.heap.size w v ps :=
  ⟨own_cells h.own (by simp), hs, hf⟩
theorem NewInts.nil (base : Nat) (w : World) : NewInts base w (.slice none 0 0) [] := ⟨World.ownsRow_nil _ _ _ _⟩

set_option maxRecDepth 100000 in
theorem clone_any {w : World} {v : Value} {ps : List Int} (h : IntsAt w.heap.size w v ps) :
    Calls Try.prog 60 #[v] w fun e w' => ∃ v', e = .returned v' ∧ NewInts w.heap.size w' v' ps ∧ Below w.heap.size w w' := by
  obtain ⟨i0, hi, hz0, hz1, hz2⟩ := infoI'
  have hs := h.short
  obtain ⟨a, c, rfl, hc, hn, hcell⟩ := h.row.is
  rw [List.length_map]
  cases a with
  | none =>
    obtain rfl := hn rfl
    have h0 : ps = [] := List.eq_nil_of_length_eq_zero (by simpa using hc)
    subst h0
    refine (show Calls Try.prog 60 _ _ _ from AnyE.slices_Clone_nil Try.cloneA 0 0 w).mono ?_
    rintro e w' ⟨rfl, rfl⟩
    exact ⟨_, rfl, NewInts.nil _ _, Below.refl _ _⟩
  | some ad =>
    have q22 : ∀ (w : World) (a : Option Addr) (n c n' c' : Nat), (binOp .eql 23 (.slice a n c) (.slice none n' c')).run Try.prog w = .ok (.bool a.isNone) w := fun w a n c n' c' => Lib.run_eql_slice_nil w _ _ a n c n' c' Try.underlying23
    have HC : Hid (∀ (o : Obj) (j : Nat) (u : Value), (ps.map encI)[j]? = some u → (w.alloc o).cell? (ad.add j) = some u) := by
      intro o j u hj
      obtain ⟨g, off, e1, e2, e3⟩ := hcell j u hj
      cases e1
      rw [add_at, (below_new w o).cell e2]
      exact e3
    have HO : Hid (∀ u ∈ ps.map encI, u.oneCell' = true) := oneI ps
    clear hc hn hcell h
    go_enter Try.func60, Try.ntmps60
    go_wp2_with (at_builtin; refine wpList_append_own _ rfl _ _ 23 rfl w.heap.size 3 i0 (.int .i64 0) 1 8 Try.underlying23 hi hz0 hz1 hz2 rfl (by decide) _ _ _ rfl (World.ownsRow_made w #[] 0 (Nat.le_refl _) (Nat.zero_le _) (by simp)) ad ps.length c (ps.map encI) rfl (by simp) (HC.out _) HO.out (by unfold maxLen; omega) (by omega) (by simp) ?_
                 intro v' w' hown hgr hiff
                 have HOW : Hid _ := hown
                 have HGR : Hid _ := hgr
                 clear hown hgr hiff)
    go_ret
    refine ⟨_, rfl, ⟨?_⟩, (below_new w _).grown HGR.out (by simp) (fun k hk => by cases hk; exact Nat.le_refl _)⟩
    have := HOW.out
    simp only [Nat.zero_add, List.nil_append] at this
    exact this

theorem sort_any {base : Nat} {w : World} {v : Value} {ps : List Int} (h : NewInts base w v ps) (hs : ps.length * 8 ≤ 140737488355328) :
    Calls Try.prog 61 #[v] w fun e w' => e = .returned (.tuple #[]) ∧ ∃ qs : List Int, qs.Perm ps ∧ qs.Pairwise (· ≤ ·) ∧ NewInts base w' v qs ∧ Below base w w' := by
  obtain ⟨_, h2⟩ := h.own
  rcases h2 with ⟨rfl, h0⟩ | ⟨g, cap, cur, rfl, hb, hg, hc, hm, hsz, ht⟩
  · have h0' : ps = [] := List.eq_nil_of_length_eq_zero h0
    subst h0'
    refine (show Calls Try.prog 61 _ _ _ from AnyM.slices_Sort_int_none Try.sortA none 0 w).mono ?_
    rintro e w' ⟨rfl, rfl⟩
    exact ⟨rfl, [], .refl _, .nil, NewInts.nil _ _, Below.refl _ _⟩
  · have hgl := (Array.getElem?_eq_some_iff.1 hg).1
    have hget : ∀ j, j < ps.length → cur[j]? = (ps.map encI)[j]? := fun j hj => by
      rw [← ht, List.getElem?_take, if_pos (by omega), Array.getElem?_toList]
    have hH : Holds (Value.int .i64) w g 0 ps.toArray := fun j hj => by
      simp at hj
      refine ⟨?_, row_frozen hg _⟩
      rw [row_cell hg, Nat.zero_add, hget j hj, List.getElem?_map, List.getElem?_eq_getElem hj, getElem!_pos ps.toArray j (by simpa using hj)]
      simp [encI]
    refine (show Calls Try.prog 61 _ _ _ from AnyM.slices_Sort_int Try.sortA g 0 cap ps w hH hgl (by omega)).mono ?_
    rintro e w' ⟨rfl, n, os, rfl⟩
    have hlen : (ps.mergeSort fun x y => decide (x ≤ y)).length = ps.length := List.length_mergeSort ps
    refine ⟨rfl, ps.mergeSort fun x y => decide (x ≤ y), List.mergeSort_perm _ _, ?_, ?_, ?_⟩
    · have := List.pairwise_mergeSort (le := fun x y : Int => decide (x ≤ y)) (fun a b c h1 h2 => by simp at *; omega) (fun a b => by simp; omega) ps
      exact this.imp (by intro a b h; simpa using h)
    · generalize (ps.mergeSort fun x y => decide (x ≤ y)) = qs at *
      have hbk : (grow (putRow (Value.int .i64) (Sort.ahead w n) g 0 qs.toArray) os).heap[g]? = some (.cells (putCells (Value.int .i64) 0 qs.toArray cur) 3 (0, 0)) := by
        rw [heap_grow_old _ _ (by simpa using hgl)]
        simp [putRow, mapBlock, Sort.ahead, Array.getElem?_modify, hg, onCells]
      refine ⟨by simp, .inr ⟨g, cap, _, by rw [hlen], hb, hbk, by omega, hm, by simpa [putCells] using hsz, ?_⟩⟩
      apply List.ext_getElem?
      intro j
      rw [List.getElem?_take]
      by_cases hj : j < qs.length
      · rw [if_pos (by omega), Array.getElem?_toList, List.getElem?_map, List.getElem?_eq_getElem hj]
        have hjc : j < cur.size := by omega
        simp [putCells, hjc, hj, encI]
      · rw [if_neg (by omega), List.getElem?_eq_none (by simp; omega)]
    · refine ⟨rfl, rfl, rfl, by simp, fun k hk => ?_⟩
      have hkl : k < w.heap.size := by omega
      rw [heap_grow_old _ _ (by simpa using hkl)]
      have : g ≠ k := by omega
      simp [putRow, mapBlock, Sort.ahead, Array.getElem?_modify, this]

theorem pagesOk_perm {qs ps : List Int} (h : qs.Perm ps) : pagesOk qs = pagesOk ps := by
  unfold pagesOk
  congr 1
  rw [h.nodup_iff]
  simp only [eq_iff_iff]
  constructor
  · rintro ⟨h1, h2⟩; exact ⟨fun p hp => h1 p (h.mem_iff.2 hp), h2⟩
  · rintro ⟨h1, h2⟩; exact ⟨fun p hp => h1 p (h.mem_iff.1 hp), h2⟩
theorem lt_step {qs : List Int} {k : Nat} {x y : Int} (hs : qs.Pairwise (· ≤ ·)) (h : (qs.take k).Nodup) (hy : qs[k]? = some y) (hx : 0 < k → qs[k - 1]? = some x ∧ x ≠ y) : (qs.take (k + 1)).Nodup := by
  rw [List.take_add_one, hy, List.nodup_append]
  refine ⟨h, by simp, fun a ha b hb e => ?_⟩
  simp at hb
  subst hb
  subst e
  obtain ⟨i, hi⟩ := List.getElem?_of_mem ha
  rw [List.getElem?_take] at hi
  split at hi
  · rename_i h1
    obtain ⟨h2, h3⟩ := hx (by omega)
    have hle : ∀ (i j : Nat) (a b : Int), i ≤ j → qs[i]? = some a → qs[j]? = some b → a ≤ b := fun i j a b hij ha hb => by
      rcases Nat.lt_or_ge i j with h | h
      · obtain ⟨p, rfl⟩ := List.getElem?_eq_some_iff.1 ha
        obtain ⟨q, rfl⟩ := List.getElem?_eq_some_iff.1 hb
        exact List.pairwise_iff_getElem.1 hs i j p q h
      · have : i = j := by omega
        subst this
        rw [ha] at hb
        cases hb
        omega
    have h4 := hle i (k - 1) _ _ (by omega) hi h2
    have h5 := hle (k - 1) k _ _ (by omega) h2 hy
    omega
  · cases hi

set_option maxHeartbeats 1600000 in
set_option maxRecDepth 100000 in
theorem numbered_any {w : World} {v : Value} {ps : List Int} (h : IntsAt w.heap.size w v ps) :
    Calls Try.prog 49 #[v] w fun r w' => r = .returned (.bool (pagesOk ps)) ∧ Below w.heap.size w w' := by
  have hs := h.short
  have HF : Hid (∀ p ∈ ps, -9223372036854775808 ≤ p ∧ p ≤ 9223372036854775807) := h.fits
  have HCL := clone_any h
  obtain ⟨a, c, rfl⟩ := h.form
  clear h
  go_enter Try.func49, Try.ntmps49
  go_wp2_with fail
  refine HCL.mono ?_
  rintro e w1 ⟨v1, rfl, hn1, hb1⟩
  go_wp2_with fail
  refine (sort_any hn1 hs).mono ?_
  rintro e w2 ⟨rfl, qs, hp, hso, hn2, hb2⟩
  have hb : Below w.heap.size w w2 := hb1.trans hb2
  have hl : qs.length = ps.length := hp.length_eq
  have HI : Hid (IntsAt w2.heap.size w2 v1 qs) := hn2.ints (by omega) (fun p hp' => HF.out p (hp.mem_iff.1 hp'))
  have HB : Hid (Below w.heap.size w w2) := hb
  have HP : Hid (pagesOk qs = pagesOk ps) := pagesOk_perm hp
  have HSO : Hid (qs.Pairwise (· ≤ ·)) := hso
  obtain ⟨a1, c1, rfl⟩ := HI.out.form
  have hsq : qs.length * 8 ≤ 140737488355328 := by omega
  clear HCL hn1 hb1 hp hso hn2 hb2 hb hl hs HF
  go_wp2_with fail
  go_loopw [12] (fun i wx => ∃ k : Nat, k ≤ qs.length ∧ i = .int .i64 k ∧ (∀ p ∈ qs.take k, 2 ≤ p ∧ p ≤ 65535) ∧ (qs.take k).Nodup ∧ wx = w2) (fun i _ => qs.length - (intOf i).toNat)
  case atStart => exact ⟨0, by omega, rfl, by simp, by simp, rfl⟩
  case round =>
    obtain ⟨k, hk, rfl, ha, hno, rfl⟩ := hrel
    have HA : Hid (∀ p ∈ qs.take k, 2 ≤ p ∧ p ≤ 65535) := ha
    have HNO : Hid ((qs.take k).Nodup) := hno
    clear ha hno
    by_cases hlt : k < qs.length
    · have hz : (k : Int) < (qs.length : Int) := by omega
      obtain ⟨p, hp⟩ : ∃ p, qs[k]? = some p := ⟨_, List.getElem?_eq_getElem hlt⟩
      obtain ⟨g, off, _, e1, hcell⟩ := HI.out.cell k p hp
      cases e1
      have HPK : Hid (qs[k]? = some p) := hp
      have HM : Hid (p ∈ qs) := List.mem_of_getElem? hp
      clear hp
      by_cases h1 : p < 2
      · have HR : Hid (pagesOk ps = false) := by
          rw [Hid, ← HP.out, ← Bool.not_eq_true, pages_iff]
          rintro ⟨h, _⟩
          have := h p HM.out
          omega
        go_wp2
        go_ret
        exact ⟨ret_bool (by rw [HR.out]), HB.out⟩
      · by_cases h2 : 65535 < p
        · have HR : Hid (pagesOk ps = false) := by
            rw [Hid, ← HP.out, ← Bool.not_eq_true, pages_iff]
            rintro ⟨h, _⟩
            have := h p HM.out
            omega
          go_wp2
          go_ret
          exact ⟨ret_bool (by rw [HR.out]), HB.out⟩
        · have HA2 : Hid (∀ x ∈ qs.take (k + 1), 2 ≤ x ∧ x ≤ 65535) := fun x hx => by
            rw [List.take_add_one, HPK.out] at hx
            rcases List.mem_append.1 hx with h | h
            · exact HA.out x h
            · simp at h; subst h; omega
          by_cases hk0 : k = 0
          · subst hk0
            have HN2 : Hid ((qs.take (0 + 1)).Nodup) := lt_step (x := 0) HSO.out HNO.out HPK.out (fun h => absurd h (by omega))
            simp only [Nat.add_zero] at hcell
            go_wp2
            exact ⟨⟨1, by omega, by go_num, HA2.out, HN2.out, by first | trivial | rfl⟩, by simp [intOf]; omega⟩
          · obtain ⟨j, hj⟩ : ∃ j : Nat, k = j + 1 := ⟨k - 1, by omega⟩
            have hn1 : (k : Int) - 1 = (j : Int) := by omega
            have hn2 : (j : Int) < (qs.length : Int) := by omega
            have hn3 : (0 : Int) < (k : Int) := by omega
            have hn4 : 0 < k := by omega
            have hwj : IntKind.i64.wrap (j : Int) = (j : Int) := wrapk_of _ (by omega) (by omega)
            obtain ⟨x, hx⟩ : ∃ x, qs[j]? = some x := ⟨qs[j]'(by omega), List.getElem?_eq_getElem _⟩
            obtain ⟨_, _, _, e1, hcell'⟩ := HI.out.cell j x hx
            cases e1
            have HX : Hid (qs[j]? = some x) := hx
            have HJ : Hid (k = j + 1) := hj
            clear hx hj
            by_cases he : p = x
            · have hez : (p == x) = true := by simp [he]
              have HR : Hid (pagesOk ps = false) := by
                rw [Hid, ← HP.out, ← Bool.not_eq_true, pages_iff]
                rintro ⟨_, h⟩
                obtain ⟨q1, e1⟩ := List.getElem?_eq_some_iff.1 HPK.out
                obtain ⟨q2, e2⟩ := List.getElem?_eq_some_iff.1 HX.out
                have hJ := HJ.out
                have := List.pairwise_iff_getElem.1 h j k q2 q1 (by omega)
                rw [e1, e2] at this
                exact this he.symm
              clear he
              go_wp2
              go_ret
              exact ⟨ret_bool (by rw [HR.out]), HB.out⟩
            · have hez : (p == x) = false := by rw [beq_eq_false_iff_ne]; exact he
              have HN2 : Hid ((qs.take (k + 1)).Nodup) := lt_step (x := x) HSO.out HNO.out HPK.out (fun _ => ⟨by rw [HJ.out, Nat.add_sub_cancel]; exact HX.out, fun e => he e.symm⟩)
              clear he
              go_wp2
              exact ⟨⟨k + 1, by omega, by go_num, HA2.out, HN2.out, by first | trivial | rfl⟩, by simp [intOf]; omega⟩
    · have hz : ¬ (k : Int) < (qs.length : Int) := by omega
      have HR : Hid (pagesOk ps = true) := by
        rw [Hid, ← HP.out, pages_iff]
        have h1 := HA.out
        have h2 := HNO.out
        rw [List.take_of_length_le (by omega)] at h1 h2
        exact ⟨h1, h2⟩
      go_wp2
      go_ret
      exact ⟨ret_bool (by rw [HR.out]), HB.out⟩
end Go.Proofs.Ytaehchijeinloaa
