/- New, slices.Clone, Lives, Count, Held. -/
import Derived.Test.YtcfmcakdgamdmaaPut
import Derived.Lib.SlBytesConst
namespace Go.Proofs.Ytcfmcakdgamdmaa
open Go.RowKit

theorem new_any (w : World) : Calls Try.prog 20 #[] w fun e w' => e = .returned (.pointer (some ⟨w.heap.size, 0, none⟩)) ∧ ListAt w.heap.size w' w.heap.size (.slice none 0 0) [] ∧ Below w.heap.size w w' := by
  go_enter Try.func20, Try.ntmps20
  go_wp2
  go_ret
  exact ⟨rfl, ⟨heap_alloc_last w _, World.ownsRow_nil _ _ _ _, OkL.nil, Nat.le_refl _, by decide⟩, below_new w _⟩
theorem count_any {base : Nat} {w : World} {b : Nat} {v : Value} {L : List Lf} (h : ListAt base w b v L) : Calls Try.prog 12 #[.pointer (some ⟨b, 0, none⟩)] w fun e w' => e = .returned (.int .i64 (L.length : Int)) ∧ w' = w := by
  have c0 := h.cell
  obtain ⟨a, c, rfl⟩ := own_slice h.row
  clear h
  go_enter Try.func12, Try.ntmps12
  go_wp2
  go_ret
  exact ⟨rfl, rfl⟩
set_option maxRecDepth 100000 in
theorem cloneL_any {w : World} {v : Value} {L : List Lf} (h : LivesAt w v L) (hs : L.length * 24 ≤ 140737488355328) :
    Calls Try.prog 30 #[v] w fun e w' => ∃ v', e = .returned v' ∧ NewL w.heap.size w' v' L ∧ Below w.heap.size w w' := by
  obtain ⟨i0, hi, hz0, hz1, hz2⟩ := infoL'
  obtain ⟨a, c, rfl, hc, hn, hcell⟩ := h.is
  have q22 : ∀ (w : World) (a : Option Addr) (n c n' c' : Nat), (binOp .eql 39 (.slice a n c) (.slice none n' c')).run Try.prog w = .ok (.bool a.isNone) w := fun w a n c n' c' => Lib.run_eql_slice_nil w _ _ a n c n' c' Try.underlying39
  cases a with
  | none =>
    obtain rfl := hn rfl
    have h0 : L = [] := List.eq_nil_of_length_eq_zero (by simpa using hc)
    subst h0
    go_enter Try.func30, Try.ntmps30
    go_wp2
    go_ret
    exact ⟨_, rfl, World.ownsRow_nil _ _ _ _, Below.refl _ _⟩
  | some ad =>
    have HC : Hid (∀ (o : Obj) (j : Nat) (u : Value), (flatL L)[j]? = some u → (w.alloc o).cell? (ad.add j) = some u) := by
      intro o j u hj
      obtain ⟨g, off, e1, e2, e3⟩ := hcell j u hj
      cases e1
      rw [add_at, (below_new w o).cell e2]
      exact e3
    have HO : Hid (∀ u ∈ flatL L, u.oneCell' = true) := flatL_one L
    have HFL : Hid ((flatL L).length = L.length * 3) := flatL_length L
    clear hc hn hcell h
    go_enter Try.func30, Try.ntmps30
    go_wp2_with (at_builtin; refine wpList_append_own _ rfl _ _ 39 rfl w.heap.size 34 i0 _ 3 24 Try.underlying39 hi hz0 hz1 hz2 rfl (by decide) _ _ _ rfl (World.ownsRow_made w #[] 0 (Nat.le_refl _) (Nat.zero_le _) (by simp)) ad L.length c (flatL L) rfl HFL.out (HC.out _) HO.out (by unfold maxLen; omega) (by omega) (by simp) ?_
                 intro v' w' hown hgr hiff
                 have HOW : Hid _ := hown
                 have HGR : Hid _ := hgr
                 clear hown hgr hiff)
    go_ret
    refine ⟨_, rfl, ?_, (below_new w _).grown HGR.out (by simp) (fun k hk => by cases hk; exact Nat.le_refl _)⟩
    have := HOW.out
    simp only [Nat.zero_add, List.nil_append] at this
    exact this
set_option maxRecDepth 100000 in
theorem cloneU_any {w : World} {v : Value} {L : List Int} (h : U64At w v L) (hs : L.length * 8 ≤ 140737488355328) :
    Calls Try.prog 32 #[v] w fun e w' => ∃ v', e = .returned v' ∧ NewU w.heap.size w' v' L ∧ Below w.heap.size w w' := by
  obtain ⟨i0, hi, hz0, hz1, hz2⟩ := infoU'
  obtain ⟨a, c, rfl, hc, hn, hcell⟩ := h.is
  have q22 : ∀ (w : World) (a : Option Addr) (n c n' c' : Nat), (binOp .eql 35 (.slice a n c) (.slice none n' c')).run Try.prog w = .ok (.bool a.isNone) w := fun w a n c n' c' => Lib.run_eql_slice_nil w _ _ a n c n' c' Try.underlying35
  cases a with
  | none =>
    obtain rfl := hn rfl
    have h0 : L = [] := List.eq_nil_of_length_eq_zero (by simpa using hc)
    subst h0
    go_enter Try.func32, Try.ntmps32
    go_wp2
    go_ret
    exact ⟨_, rfl, World.ownsRow_nil _ _ _ _, Below.refl _ _⟩
  | some ad =>
    have HC : Hid (∀ (o : Obj) (j : Nat) (u : Value), (L.map encU)[j]? = some u → (w.alloc o).cell? (ad.add j) = some u) := by
      intro o j u hj
      obtain ⟨g, off, e1, e2, e3⟩ := hcell j u hj
      cases e1
      rw [add_at, (below_new w o).cell e2]
      exact e3
    have HO : Hid (∀ u ∈ L.map encU, u.oneCell' = true) := fun u hu => by
      obtain ⟨p, _, rfl⟩ := List.mem_map.1 hu; rfl
    clear hc hn hcell h
    go_enter Try.func32, Try.ntmps32
    go_wp2_with (at_builtin; refine wpList_append_own _ rfl _ _ 35 rfl w.heap.size 32 i0 _ 1 8 Try.underlying35 hi hz0 hz1 hz2 rfl (by decide) _ _ _ rfl (World.ownsRow_made w #[] 0 (Nat.le_refl _) (Nat.zero_le _) (by simp)) ad L.length c (L.map encU) rfl (by simp) (HC.out _) HO.out (by unfold maxLen; omega) (by omega) (by simp) ?_
                 intro v' w' hown hgr hiff
                 have HOW : Hid _ := hown
                 have HGR : Hid _ := hgr
                 clear hown hgr hiff)
    go_ret
    refine ⟨_, rfl, ?_, (below_new w _).grown HGR.out (by simp) (fun k hk => by cases hk; exact Nat.le_refl _)⟩
    have := HOW.out
    simp only [Nat.zero_add, List.nil_append] at this
    exact this
theorem lives_any {base : Nat} {w : World} {b : Nat} {v : Value} {L : List Lf} (h : ListAt base w b v L) : Calls Try.prog 11 #[.pointer (some ⟨b, 0, none⟩)] w fun e w' => ∃ v', e = .returned v' ∧ NewL w.heap.size w' v' L ∧ Below w.heap.size w w' := by
  have c0 := h.cell
  have HC := cloneL_any (RowAt.own h.row) h.short
  obtain ⟨a, c, rfl⟩ := own_slice h.row
  clear h
  go_enter Try.func11, Try.ntmps11
  go_wp2_with (go_at_call 30; refine HC.mono ?_; rintro e w1 ⟨v1, rfl, hn, hb⟩; have HN : Hid _ := hn; have HB : Hid _ := hb; clear hn hb)
  go_ret
  exact ⟨_, rfl, HN.out, HB.out⟩
set_option maxHeartbeats 1600000 in
set_option maxRecDepth 100000 in
theorem held_any {base : Nat} {w : World} {b : Nat} {v : Value} {L : List Lf} (h : ListAt base w b v L) (s : Int) : Calls Try.prog 14 #[.pointer (some ⟨b, 0, none⟩), .int .u64 s] w fun e w' => ∃ v', e = .returned v' ∧ NewI w.heap.size w' v' (heldL L s) ∧ Below w.heap.size w w' := by
  have c0 := h.cell
  have hsh := h.short
  have HL : Hid (LivesAt w v L) := RowAt.own h.row
  obtain ⟨a, c, rfl⟩ := own_slice h.row
  clear h
  go_enter Try.func14, Try.ntmps14
  go_wp2_with fail
  go_loopw [5, 13] (fun u i wx => ∃ k : Nat, k ≤ L.length ∧ i = .int .i64 k ∧ NewI w.heap.size wx u (heldL (L.take k) s) ∧ Below w.heap.size w wx) (fun _ i _ => L.length - (intOf i).toNat)
  case atStart => exact ⟨0, Nat.zero_le _, rfl, World.ownsRow_nil _ _ _ _, Below.refl _ _⟩
  case round =>
    obtain ⟨k, hk, rfl, hu, hbl⟩ := hrel
    by_cases hlt : k < L.length
    · have hltz : (k : Int) < (L.length : Int) := by omega
      obtain ⟨y, hy⟩ : ∃ y, L[k]? = some y := ⟨_, List.getElem?_eq_getElem hlt⟩
      obtain ⟨g, off, rfl, hg, k0, k1, k2⟩ := lives_cell (HL.out.here hbl) hy
      obtain ⟨wa, hwa⟩ : ∃ wa, wa = wr.alloc (.cells #[.int .i64 y.p, .int .u64 y.b, .int .u64 y.d] 34) := ⟨_, rfl⟩
      have hya : wa.heap[wr.heap.size]? = some (.cells #[.int .i64 y.p, .int .u64 y.b, .int .u64 y.d] 34 (0, 0)) := by rw [hwa]; exact heap_alloc_last wr _
      have hba : Below wr.heap.size wr wa := by rw [hwa]; exact below_new wr _
      have a0 : wa.cell? ⟨wr.heap.size, 0, none⟩ = some (.int .i64 y.p) := row_cell hya 0
      have a1 : wa.cell? ⟨wr.heap.size, 1, none⟩ = some (.int .u64 y.b) := row_cell hya 1
      have a2 : wa.cell? ⟨wr.heap.size, 2, none⟩ = some (.int .u64 y.d) := row_cell hya 2
      have HBA : Hid (Below w.heap.size w wa) := hbl.trans (hba.mono hbl.size)
      have HUA : Hid (NewI w.heap.size wa _ (heldL (L.take k) s)) := own_here hu hba
      have HTK : Hid (heldL (L.take (k + 1)) s = heldL (L.take k) s ++ if needsL s y = true then [y.p] else []) := by
        show _ = _
        unfold heldL
        rw [List.take_add_one, hy, List.filter_append, List.map_append]
        congr 1
        by_cases hn : needsL s y = true <;> simp [hn]
      have HLH : Hid ((heldL (L.take k) s).length ≤ L.length) := by
        show _ ≤ _
        unfold heldL
        rw [List.length_map]
        exact Nat.le_trans (List.length_filter_le _ _) (Nat.le_trans (List.length_take_le _ _) hk)
      have hwl : wr.heap.size < wa.heap.size := (Array.getElem?_eq_some_iff.1 hya).1
      have hnd := needs_any wa s y
      have HY : Hid _ := hya
      generalize needsL s y = nb at hnd HTK
      have HND : Hid (Calls Try.prog 31 #[.int .u64 s, .agg #[.int .i64 y.p, .int .u64 y.b, .int .u64 y.d]] wa fun e w' => e = .returned (.bool nb) ∧ Below wa.heap.size wa w') := hnd
      clear hy hu hbl hba hya hnd
      cases nb with
      | true =>
        go_upto_region 5 with fail
        rw [← hwa]
        clear hwa
        go_wp2_with (first
          | (go_at_call 31
             refine HND.out.mono ?_
             rintro e w3 ⟨rfl, hb3⟩
             have a3 := (hb3.cell (p := ⟨wr.heap.size, 0, none⟩) hwl).trans a0
             have HU4 : Hid (NewI w.heap.size (w3.alloc (.cells #[.int .i64 y.p] 3)) u5 (heldL (L.take k) s)) := own_here (own_here HUA.out hb3) (below_new _ _)
             have HB4 : Hid (Below w.heap.size w (w3.alloc (.cells #[.int .i64 y.p] 3))) := (Below.trans HBA.out (Below.mono hb3 (Below.size HBA.out))).alloc (Below.size (Below.trans HBA.out (Below.mono hb3 (Below.size HBA.out)))) _
             clear hb3)
          | (at_builtin
             refine wpList_append_int rfl _ _ rfl w.heap.size u5 (heldL (L.take k) s) y.p rfl HU4.out w3.heap.size rfl (heap_alloc_last w3 _) (by have := HLH.out; omega) (Below.size HB4.out) ?_
             intro v5 w5 hv5 _ hk5
             have HV5 : Hid _ := hv5
             have HB5 : Hid (Below w.heap.size w w5) := Below.trans HB4.out hk5.low
             clear hv5 hk5))
        exact ⟨⟨k + 1, by omega, by go_num, by rw [HTK.out]; exact HV5.out, HB5.out⟩, by simp [intOf]; omega⟩
      | false =>
        go_upto_region 5 with fail
        rw [← hwa]
        clear hwa
        go_wp2_with (go_at_call 31
                     refine HND.out.mono ?_
                     rintro e w3 ⟨rfl, hb3⟩
                     have HU4 : Hid (NewI w.heap.size w3 u5 (heldL (L.take k) s)) := own_here HUA.out hb3
                     have HB4 : Hid (Below w.heap.size w w3) := Below.trans HBA.out (Below.mono hb3 (Below.size HBA.out))
                     clear hb3)
        exact ⟨⟨k + 1, by omega, by go_num, by rw [HTK.out]; simp only [Bool.false_eq_true, if_false, List.append_nil]; exact HU4.out, HB4.out⟩, by simp [intOf]; omega⟩
    · have hltz : ¬ (k : Int) < (L.length : Int) := by omega
      have HE : Hid (L.take k = L) := List.take_of_length_le (by omega)
      rw [HE.out] at hu
      have HU : Hid _ := hu
      have HB : Hid _ := hbl
      clear hu hbl
      go_wp2_with fail
      go_ret
      exact ⟨_, rfl, HU.out, HB.out⟩
end Go.Proofs.Ytcfmcakdgamdmaa
