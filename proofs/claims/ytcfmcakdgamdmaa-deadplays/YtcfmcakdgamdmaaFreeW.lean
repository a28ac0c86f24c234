/- Free: the walk. -/
import Derived.Test.YtcfmcakdgamdmaaFree
namespace Go.Proofs.Ytcfmcakdgamdmaa
open Go.RowKit

/-- What Free leaves. -/
structure FreePost (base : Nat) (w : World) (b : Nat) (v : Value) (L : List Lf) (S : List Int) (r : Ending) (w' : World) : Prop where
  is : ∃ vp v', r = .returned vp ∧ NewI w.heap.size w' vp (goneL L S) ∧ ListAt base w' b v' (leftL L S) ∧ Kept (Its b v) w w' ∧ v'.ownBlock = v.ownBlock
/-- The loop of Free. -/
structure FreeRel (base : Nat) (w w2 wx : World) (g c n : Nat) (L : List Lf) (T : List Int) (k : Nat) (s6 s7 : Value) : Prop where
  is : ∃ (M : List Lf) (ps : List Int) (cur : Array Value), s7 = .slice (some ⟨g, 0, none⟩) M.length c ∧ M = leftL (L.take k) T ∧ ps = ((L.take k).filter fun x => !anyL T x).map Lf.p ∧ wx.heap[g]? = some (.cells cur 34 (0, 0)) ∧ FreeInv cur L k M c ∧ NewI n wx s6 ps ∧ Kept (fun i => i = g) w2 wx
set_option maxHeartbeats 3200000 in
set_option maxRecDepth 100000 in
theorem free_none {base : Nat} {w : World} {b : Nat} {sv : Value} {S : List Int} (h : ListAt base w b (.slice none 0 0) []) (hS : U64At w sv S) (hs8 : S.length * 8 ≤ 140737488355328) (hso : SortOk S.length) :
    Calls Try.prog 17 #[.pointer (some ⟨b, 0, none⟩), sv] w fun r w' => FreePost base w b (.slice none 0 0) [] S r w' := by
  have HCL := cloneU_any hS hs8
  have HSO : Hid (SortOk S.length) := hso
  have H : Hid _ := h
  obtain ⟨sa, sc, rfl⟩ := hS.form
  clear h hS hso
  go_enter Try.func17, Try.ntmps17
  go_wp2_with (first
    | (go_at_call 32
       refine HCL.mono ?_
       rintro e w1 ⟨v1, rfl, hn1, hb1⟩
       obtain ⟨a1, c1, e1⟩ := own_slice hn1
       subst e1
       have HN1 : Hid _ := hn1
       have HB1 : Hid _ := hb1
       clear hn1 hb1 HCL)
    | (go_at_call 33
       refine (HSO.out w.heap.size w1 _ S HN1.out rfl (Below.size HB1.out)).mono ?_
       rintro e w2 ⟨T, rfl, hp, hr, hn2, hb2⟩
       have HT2 : Hid (NewU w.heap.size w2 (.slice a1 S.length c1) T) := hn2
       have HT : Hid (T.length = S.length) := hp.length_eq
       have HP : Hid _ := hp
       have HR : Hid (T.Pairwise (· ≤ ·)) := hr
       have HB2 : Hid (Below w.heap.size w w2) := Below.trans HB1.out hb2
       have hL2 := H.out.below HB2.out
       have c0 := hL2.cell
       have f0 := hL2.frozen
       have HL2 : Hid _ := hL2
       clear hp hr hn2 hb2 hL2))
  go_loopw [6, 7, 24] (fun s6 s7 i wx => s6 = .slice none 0 0 ∧ s7 = .slice none 0 0 ∧ i = .int .i64 0 ∧ wx = w2) (fun _ _ i _ => 1 - (intOf i).toNat)
  case atStart => exact ⟨rfl, rfl, rfl, rfl⟩
  case round =>
    obtain ⟨rfl, rfl, rfl, hw⟩ := hrel
    obtain rfl := hw.symm
    have HCO := compact_any (World.ownsRow_nil (w2.setCell ⟨b, 0, none⟩ (.slice none 0 0)) w.heap.size 3 1) (ps := []) (by decide)
    go_wp2_with (go_at_call 35; refine HCO.mono ?_; rintro e w5 ⟨v5, rfl, hn5, hg5, he5⟩; have HN5 : Hid _ := hn5; have HG5 : Hid _ := hg5; clear hn5 hg5 he5)
    go_ret
    refine ⟨v5, .slice none 0 0, rfl, HN5.out, ⟨?_, World.ownsRow_nil _ _ _ _, OkL.nil, H.out.low, Nat.zero_le _⟩, ?_, rfl⟩
    · have h1 := heap_set_same (i := 0) (.slice none 0 0) HL2.out.cells
      rw [HG5.out.block b (by have := HL2.out.lt; simpa using this) (by simp [Value.ownBlock]), h1]
      simp
    · exact ((Kept.of_below HB2.out).trans (setCell_kept (.slice none 0 0)) (fun i _ hi => .inl hi)).trans (Kept.of_grown (S := Its b (.slice none 0 0)) HG5.out (fun k hk => by simp [Value.ownBlock] at hk)) (fun _ _ h => h)
set_option maxHeartbeats 3200000 in
set_option maxRecDepth 100000 in
theorem free_row {base : Nat} {w : World} {b g c : Nat} {sv : Value} {L : List Lf} {S : List Int} {cur0 : Array Value} (h : ListAt base w b (.slice (some ⟨g, 0, none⟩) L.length c) L) (hg : w.heap[g]? = some (.cells cur0 34 (0, 0))) (hLc : L.length ≤ c) (hcm : c ≤ maxLen) (hcs : cur0.size = c * 3) (hct : cur0.toList.take (L.length * 3) = flatL L) (hS : U64At w sv S) (hs8 : S.length * 8 ≤ 140737488355328) (hso : SortOk S.length) :
    Calls Try.prog 17 #[.pointer (some ⟨b, 0, none⟩), sv] w fun r w' => FreePost base w b (.slice (some ⟨g, 0, none⟩) L.length c) L S r w' := by
  have HCL := cloneU_any hS hs8
  have HSO : Hid (SortOk S.length) := hso
  have H : Hid _ := h
  have hsh := h.short
  obtain ⟨sa, sc, rfl⟩ := hS.form
  have hgl := (Array.getElem?_eq_some_iff.1 hg).1
  have HG : Hid _ := hg
  have HF0 : Hid (FreeInv cur0 L 0 [] c) := FreeInv.start hcs hct
  have hLcz : (L.length : Int) ≤ (c : Int) := by omega
  have hc0 : (0 : Int) ≤ (c : Int) := by omega
  clear h hS hso hg hcs hct
  go_enter Try.func17, Try.ntmps17
  go_wp2_with (first
    | (go_at_call 32
       refine HCL.mono ?_
       rintro e w1 ⟨v1, rfl, hn1, hb1⟩
       obtain ⟨a1, c1, e1⟩ := own_slice hn1
       subst e1
       have HN1 : Hid _ := hn1
       have HB1 : Hid _ := hb1
       clear hn1 hb1 HCL)
    | (go_at_call 33
       refine (HSO.out w.heap.size w1 _ S HN1.out rfl (Below.size HB1.out)).mono ?_
       rintro e w2 ⟨T, rfl, hp, hr, hn2, hb2⟩
       have HT2 : Hid (NewU w.heap.size w2 (.slice a1 S.length c1) T) := hn2
       have HT : Hid (T.length = S.length) := hp.length_eq
       have HP : Hid _ := hp
       have HR : Hid (T.Pairwise (· ≤ ·)) := hr
       have HB2 : Hid (Below w.heap.size w w2) := Below.trans HB1.out hb2
       have hL2 := H.out.below HB2.out
       have c0 := hL2.cell
       have f0 := hL2.frozen
       have HL2 : Hid _ := hL2
       clear hp hr hn2 hb2 hL2))
  have HG2 : Hid (w2.heap[g]? = some (.cells cur0 34 (0, 0))) := by show _ = _; rw [HB2.out.block g hgl]; exact HG.out
  go_loopw [6, 7, 24] (fun s6 s7 i wx => ∃ k : Nat, k ≤ L.length ∧ i = .int .i64 k ∧ FreeRel base w w2 wx g c w2.heap.size L T k s6 s7) (fun _ _ i _ => L.length - (intOf i).toNat)
  case atStart => exact ⟨0, Nat.zero_le _, rfl, [], [], cur0, rfl, rfl, rfl, HG2.out, HF0.out, World.ownsRow_nil _ _ _ _, Kept.refl _ _⟩
  case round =>
    obtain ⟨k, hk, rfl, M, ps, cur, rfl, hM, hps, hgx, hfi, hnp, hkx⟩ := hrel
    have HM : Hid _ := hM
    have HPS : Hid _ := hps
    have HGX : Hid _ := hgx
    have HFI : Hid _ := hfi
    have HNP : Hid _ := hnp
    have HKX : Hid _ := hkx
    have hle := hfi.le
    have hgxl := (Array.getElem?_eq_some_iff.1 hgx).1
    clear hM hps
    by_cases hlt : k < L.length
    · have hltz : (k : Int) < (L.length : Int) := by omega
      obtain ⟨y, hy⟩ : ∃ y, L[k]? = some y := ⟨_, List.getElem?_eq_getElem hlt⟩
      obtain ⟨f1, f2, f3⟩ := hfi.cell hy
      have k0 : wr.cell? ⟨g, k * 3, none⟩ = some (.int .i64 y.p) := (row_cell hgx _).trans f1
      have k1 : wr.cell? ⟨g, k * 3 + 1, none⟩ = some (.int .u64 y.b) := (row_cell hgx _).trans f2
      have k2 : wr.cell? ⟨g, k * 3 + 2, none⟩ = some (.int .u64 y.d) := (row_cell hgx _).trans f3
      have HTK : Hid (leftL (L.take (k + 1)) T = leftL (L.take k) T ++ if anyL T y = true then [y] else []) := by
        show _ = _
        unfold leftL
        rw [List.take_add_one, hy, List.filter_append]
        congr 1
        by_cases hn : anyL T y = true <;> simp [hn]
      have HTG : Hid (((L.take (k + 1)).filter fun x => !anyL T x).map Lf.p = ((L.take k).filter fun x => !anyL T x).map Lf.p ++ if anyL T y = true then [] else [y.p]) := by
        show _ = _
        rw [List.take_add_one, hy, List.filter_append, List.map_append]
        congr 1
        by_cases hn : anyL T y = true <;> simp [hn]
      have HPL : Hid (ps.length ≤ L.length) := by
        show _ ≤ _
        rw [HPS.out, List.length_map]
        exact Nat.le_trans (List.length_filter_le _ _) (Nat.le_trans (List.length_take_le _ _) hk)
      obtain ⟨wa, hwa⟩ : ∃ wa, wa = wr.alloc (.cells #[.int .i64 y.p, .int .u64 y.b, .int .u64 y.d] 34) := ⟨_, rfl⟩
      have hya : wa.heap[wr.heap.size]? = some (.cells #[.int .i64 y.p, .int .u64 y.b, .int .u64 y.d] 34 (0, 0)) := by rw [hwa]; exact heap_alloc_last wr _
      have hba : Below wr.heap.size wr wa := by rw [hwa]; exact below_new wr _
      have a0 : wa.cell? ⟨wr.heap.size, 0, none⟩ = some (.int .i64 y.p) := row_cell hya 0
      have a1' : wa.cell? ⟨wr.heap.size, 1, none⟩ = some (.int .u64 y.b) := row_cell hya 1
      have a2 : wa.cell? ⟨wr.heap.size, 2, none⟩ = some (.int .u64 y.d) := row_cell hya 2
      have hwl : wr.heap.size < wa.heap.size := (Array.getElem?_eq_some_iff.1 hya).1
      have HBA : Hid (Below wr.heap.size wr wa) := hba
      have HTA : Hid (U64At wa (.slice a1 S.length c1) T) := by
        have h1 : NewU w.heap.size wr (.slice a1 S.length c1) T := own_kept HT2.out HKX.out (fun i hi e => by
          obtain ⟨_, _, cur', hc⟩ := own_type HT2.out i hi
          rw [e, HG2.out] at hc
          simp at hc)
        exact RowAt.own (own_here h1 hba)
      have hnd := oneNeeds_any y HTA.out HR.out (by have := HT.out; omega)
      generalize hnb : anyL T y = nb at hnd HTK HTG
      have HND : Hid (Calls Try.prog 34 #[.slice a1 S.length c1, .agg #[.int .i64 y.p, .int .u64 y.b, .int .u64 y.d]] wa fun e w' => e = .returned (.bool nb) ∧ Below wa.heap.size wa w') := hnd
      clear hy hfi hnp hkx hba hya hnd f1 f2 f3 hnb
      cases nb with
      | true =>
        go_upto_region 8 with fail
        rw [← hwa]
        clear hwa
        go_wp2_with (first
          | (go_at_call 34
             refine HND.out.mono ?_
             rintro e w3 ⟨rfl, hb3⟩
             have b0 := (hb3.cell (p := ⟨wr.heap.size, 0, none⟩) hwl).trans a0
             have b1 := (hb3.cell (p := ⟨wr.heap.size, 1, none⟩) hwl).trans a1'
             have b2 := (hb3.cell (p := ⟨wr.heap.size, 2, none⟩) hwl).trans a2
             have HB4 : Hid (Below wr.heap.size wr (w3.alloc (.cells #[.int .i64 y.p, .int .u64 y.b, .int .u64 y.d] 34))) := (Below.trans HBA.out (Below.mono hb3 (Below.size HBA.out))).alloc (Below.size (Below.trans HBA.out (Below.mono hb3 (Below.size HBA.out)))) _
             have HG4 : Hid ((w3.alloc (.cells #[.int .i64 y.p, .int .u64 y.b, .int .u64 y.d] 34)).heap[g]? = some (.cells cur 34 (0, 0))) := ((HB4.out.block g hgxl).trans HGX.out)
             have HRN : Hid (∀ ty, (Builtin.append_ #[39, 39] ty #[.slice (some ⟨g, 0, none⟩) M.length c, .slice (some ⟨w3.heap.size, 0, none⟩) 1 1]).run Try.prog (w3.alloc (.cells #[.int .i64 y.p, .int .u64 y.b, .int .u64 y.d] 34)) = .ok (.slice (some ⟨g, 0, none⟩) (M.length + 1) c) ((w3.alloc (.cells #[.int .i64 y.p, .int .u64 y.b, .int .u64 y.d] 34)).setRow g (lay cur (M.length * 3) (encL y)))) := fun ty => run_life _ ty HG4.out (heap_alloc_last w3 _) rfl (by omega) HFI.out.size
             clear hb3)
          | (at_builtin; refine Lib.wpList_append_run _ rfl _ _ _ _ rfl _ _ rfl rfl _ _ (HRN.out _) ?_))
        refine ⟨⟨k + 1, by omega, by go_num, M ++ [y], ps, lay cur (M.length * 3) (encL y), by simp, by rw [HTK.out, HM.out]; rfl, by rw [HTG.out, HPS.out]; simp, setRow_heap _ g cur _ 34 (0, 0) HG4.out, HFI.out.put hlt (by omega), own_setRow (own_here HNP.out HB4.out) HG4.out (by decide) _, ?_⟩, by simp [intOf]; omega⟩
        exact (HKX.out.trans (Kept.of_below (S := fun i => i = g) HB4.out) (fun _ _ h => h)).trans (setRow_kept _ g _) (fun _ _ h => h)
      | false =>
        go_upto_region 8 with fail
        rw [← hwa]
        clear hwa
        go_wp2_with (first
          | (go_at_call 34
             refine HND.out.mono ?_
             rintro e w3 ⟨rfl, hb3⟩
             have b0 := (hb3.cell (p := ⟨wr.heap.size, 0, none⟩) hwl).trans a0
             have HB4 : Hid (Below wr.heap.size wr (w3.alloc (.cells #[.int .i64 y.p] 3))) := (Below.trans HBA.out (Below.mono hb3 (Below.size HBA.out))).alloc (Below.size (Below.trans HBA.out (Below.mono hb3 (Below.size HBA.out)))) _
             have HU4 : Hid (NewI w2.heap.size (w3.alloc (.cells #[.int .i64 y.p] 3)) u6 ps) := own_here HNP.out HB4.out
             have hws : w2.heap.size ≤ (w3.alloc (.cells #[.int .i64 y.p] 3)).heap.size := Nat.le_trans HKX.out.size (Below.size HB4.out)
             have HWS : Hid _ := hws
             clear hb3 hws)
          | (at_builtin
             refine wpList_append_int rfl _ _ rfl w2.heap.size u6 ps y.p rfl HU4.out w3.heap.size rfl (heap_alloc_last w3 _) (by have := HPL.out; omega) HWS.out ?_
             intro v5 w5 hv5 hgr5 hk5
             have HV5 : Hid _ := hv5
             have HK5 : Hid _ := hk5
             have HG5 : Hid _ := hgr5
             clear hv5 hk5 hgr5))
        have hG4 : (w3.alloc (.cells #[.int .i64 y.p] 3)).heap[g]? = some (.cells cur 34 (0, 0)) := (HB4.out.block g hgxl).trans HGX.out
        refine ⟨⟨k + 1, by omega, by go_num, M, ps ++ [y.p], cur, rfl, by rw [HTK.out, HM.out]; simp, by rw [HTG.out, HPS.out]; simp, HK5.out.typ g cur _ _ (by decide) hG4, HFI.out.skip hlt, HV5.out, ?_⟩, by simp [intOf]; omega⟩
        exact (HKX.out.trans (Kept.of_below (S := fun i => i = g) HB4.out) (fun _ _ h => h)).trans (Kept.of_grown (S := fun i => u6.ownBlock = some i) HG5.out (fun k hk => hk)) (fun i hi h => by
          have := (own_type HU4.out i h).2.1
          omega)
    · have hltz : ¬ (k : Int) < (L.length : Int) := by omega
      have HTKE : Hid (L.take k = L) := List.take_of_length_le (by omega)
      have hbg : b ≠ g := fun e => HL2.out.apart (by rw [e]; rfl)
      have hbk : wr.heap[b]? = some (.cells #[.slice (some ⟨g, 0, none⟩) L.length c] 63 (0, 0)) := (hkx.block b HL2.out.lt hbg).trans HL2.out.cells
      have d0 : wr.cell? ⟨b, 0, none⟩ = some (.slice (some ⟨g, 0, none⟩) L.length c) := row_cell hbk 0
      have d1 : wr.frozen? ⟨b, 0, none⟩ = false := row_frozen hbk 0
      have HBK : Hid _ := hbk
      have HBG : Hid (b ≠ g) := hbg
      obtain ⟨wb, hwb⟩ : ∃ wb, wb = wr.setCell ⟨b, 0, none⟩ (.slice (some ⟨g, 0, none⟩) M.length c) := ⟨_, rfl⟩
      have HNB : Hid (NewI w2.heap.size wb u6 ps) := by
        rw [hwb]
        exact own_kept HNP.out (setCell_kept _) (fun i hi e => by
          obtain ⟨_, _, cur', hc⟩ := own_type HNP.out i hi
          rw [e, HBK.out] at hc
          simp at hc)
      have HBB : Hid (wb.heap[b]? = some (.cells #[.slice (some ⟨g, 0, none⟩) M.length c] 63 (0, 0))) := by
        show _ = _
        rw [hwb]
        have := heap_set_same (i := 0) (.slice (some ⟨g, 0, none⟩) M.length c) HBK.out
        simpa using this
      have HGB : Hid (wb.heap[g]? = some (.cells cur 34 (0, 0))) := by
        show _ = _
        rw [hwb, (setCell_kept _).block g hgxl (fun e => HBG.out e.symm)]
        exact HGX.out
      have HKB : Hid (Kept (Its b (.slice (some ⟨g, 0, none⟩) L.length c)) w wb) := by
        rw [hwb]
        exact (((Kept.of_below HB2.out).trans HKX.out (fun i _ hi => .inr (by rw [hi]; rfl))).trans (setCell_kept _) (fun i _ hi => .inl hi))
      have HPL : Hid (ps.length ≤ L.length) := by
        show _ ≤ _
        rw [HPS.out, List.length_map]
        exact Nat.le_trans (List.length_filter_le _ _) (Nat.le_trans (List.length_take_le _ _) hk)
      have HCO := compact_any HNB.out (by have := HPL.out; omega)
      have HML : Hid (M = leftL L S) := by
        show _ = _
        rw [HM.out, HTKE.out]
        unfold leftL
        congr 1
        funext x
        exact any_perm HP.out x
      have HPG : Hid (onceL ps = goneL L S) := by
        show _ = _
        rw [HPS.out, HTKE.out]
        unfold goneL
        congr 3
        funext x
        rw [any_perm HP.out x]
      clear hbk hbg hfi hnp hkx hgx
      go_upto_region 13 with fail
      rw [← hwb]
      clear hwb
      go_wp2_with (go_at_call 35; refine HCO.mono ?_; rintro e w5 ⟨v5, rfl, hn5, hg5, he5⟩; have HN5 : Hid _ := hn5; have HG5 : Hid _ := hg5; clear hn5 hg5 he5)
      go_ret
      have hnot : ∀ (i : Nat) (cur' : Array Value) t, t ≠ 3 → wb.heap[i]? = some (.cells cur' t (0, 0)) → w5.heap[i]? = some (.cells cur' t (0, 0)) := fun i cur' t ht hi => by
        rw [HG5.out.block i (Array.getElem?_eq_some_iff.1 hi).1 (fun e => by
          obtain ⟨_, _, cur'', hc⟩ := own_type HNB.out i e.symm
          rw [hi] at hc
          simp at hc
          exact ht hc.2)]
        exact hi
      refine ⟨v5, .slice (some ⟨g, 0, none⟩) M.length c, rfl, ?_, ?_, ?_, rfl⟩
      · rw [← HPG.out]
        exact own_mono HN5.out (Below.size HB2.out)
      · rw [← HML.out]
        refine ⟨hnot b _ _ (by decide) HBB.out, ⟨flatL_length _, .inr ⟨g, c, cur, rfl, ?_, hnot g _ _ (by decide) HGB.out, ?_, hcm, HFI.out.size, HFI.out.low⟩⟩, ?_, H.out.low, ?_⟩
        · exact (H.out.its g (.inr rfl)).1
        · omega
        · rw [HML.out]; exact H.out.ok.filter _
        · have : M.length ≤ L.length := by omega
          omega
      · refine HKB.out.trans (Kept.of_grown (S := fun i => u6.ownBlock = some i) HG5.out (fun k hk => hk)) (fun i hi h => ?_)
        have h1 := (own_type HNB.out i h).2.1
        have h2 := Below.size HB2.out
        omega
theorem free_any {base : Nat} {w : World} {b : Nat} {v sv : Value} {L : List Lf} {S : List Int} (h : ListAt base w b v L) (hS : U64At w sv S) (hs8 : S.length * 8 ≤ 140737488355328) (hso : SortOk S.length) :
    Calls Try.prog 17 #[.pointer (some ⟨b, 0, none⟩), sv] w fun r w' => FreePost base w b v L S r w' := by
  rcases h.row.2 with ⟨rfl, h0⟩ | ⟨g, c, cur, rfl, hb, hg, hc, hm, hsz, ht⟩
  · have h0' : L = [] := List.eq_nil_of_length_eq_zero h0
    subst h0'
    exact free_none h hS hs8 hso
  · exact free_row h hg hc hm hsz ht hS hs8 hso
end Go.Proofs.Ytcfmcakdgamdmaa
