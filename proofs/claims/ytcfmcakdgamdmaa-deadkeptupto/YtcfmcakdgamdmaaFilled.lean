/- The law's filled. -/
import Derived.Test.YtcfmcakdgamdmaaAwake
import Derived.Test.YtcfmcakdgamdmaaFillP
namespace Go.Proofs.Ytcfmcakdgamdmaa
open Go.RowKit

/-- What filled leaves. -/
structure FillPost (w : World) (X : List Lf) (e : Ending) (w' : World) : Prop where
  is : ∃ (b : Nat) (v u : Value), e = .returned (.tuple #[.pointer (some ⟨b, 0, none⟩), u]) ∧ ListAt w.heap.size w' b v (fillL X).1 ∧ NewL w.heap.size w' u (fillL X).2 ∧ Below w.heap.size w w' ∧ ∀ i, u.ownBlock = some i → ¬ Its b v i
/-- The loop. -/
structure FillRel (w wx : World) (b : Nat) (X : List Lf) (k : Nat) (u : Value) : Prop where
  is : ∃ v, ListAt w.heap.size wx b v (fillL (X.take k)).1 ∧ NewL w.heap.size wx u (fillL (X.take k)).2 ∧ Below w.heap.size w wx ∧ ∀ i, u.ownBlock = some i → ¬ Its b v i
set_option maxHeartbeats 3200000 in
set_option maxRecDepth 100000 in
theorem filled_any {w : World} {vx : Value} {X : List Lf} (hX : LivesAt w vx X) (hs : X.length * 24 ≤ 140737488355328) :
    Calls Try.prog 10 #[vx] w fun e w' => FillPost w X e w' := by
  obtain ⟨a, c, rfl⟩ := hX.form
  obtain ⟨i0, hi0, hz0, hz1, hz2⟩ := infoL'
  have HX : Hid _ := hX
  clear hX
  go_enter Try.func10, Try.ntmps10
  go_wp2_with fail
  refine (new_any w).mono ?_
  rintro e w1 ⟨rfl, hl1, hb1⟩
  have HL1 : Hid _ := hl1
  have HB1 : Hid _ := hb1
  clear hl1 hb1
  go_wp2_with fail
  go_loopw [5, 6] (fun u i wx => ∃ k : Nat, k ≤ X.length ∧ i = .int .i64 k ∧ FillRel w wx w.heap.size X k u) (fun _ i _ => X.length - (intOf i).toNat)
  case atStart => exact ⟨0, Nat.zero_le _, rfl, _, HL1.out, World.ownsRow_nil _ _ _ _, HB1.out, fun i hi => by cases hi⟩
  case round =>
    obtain ⟨k, hk, rfl, v, hl, hu, hb, hap⟩ := hrel
    have HL : Hid _ := hl
    have HU : Hid _ := hu
    have HB : Hid _ := hb
    have HAP : Hid _ := hap
    have hle := fill_length (X.take k)
    have hle1 := fill_lengths (X.take k)
    have htk : (X.take k).length ≤ k := List.length_take_le _ _
    clear hap
    by_cases hlt : k < X.length
    · have hltz : (k : Int) < (X.length : Int) := by omega
      obtain ⟨y, hy⟩ : ∃ y, X[k]? = some y := ⟨_, List.getElem?_eq_getElem hlt⟩
      obtain ⟨g, off, rfl, hg, k0, k1, k2⟩ := lives_cell (HX.out.here hb) hy
      have HTK : Hid (fillL (X.take (k + 1)) = stepF (fillL (X.take k)) y) := by
        show _ = _
        rw [List.take_add_one, hy]
        exact fillL_snoc _ _
      have HP := put_any (x := y) hl hb.size (by omega)
      have HLS : Hid ((fillL (X.take k)).2.length + 1 ≤ X.length) := by show _ ≤ _; omega
      generalize fillL (X.take k) = F at HTK HP HL HU HLS
      obtain ⟨F1, F2⟩ := F
      simp only at HP HL HU HLS
      have HPC : Hid (Calls Try.prog 21 #[.pointer (some ⟨w.heap.size, 0, none⟩), .agg #[.int .i64 y.p, .int .u64 y.b, .int .u64 y.d]] wr fun r w' => PutPost w.heap.size wr w.heap.size v F1 y r w') := HP
      have HY : Hid _ := hy
      clear hy hl hu hb HP hle hle1 htk
      by_cases h0 : putE F1 y = 0
      · go_wp2_with fail
        refine HPC.out.mono ?_
        rintro e w3 ⟨v3, rfl, hl3, hk3, hm3⟩
        rw [h0]
        have HB3 : Hid (Below w.heap.size w w3) := Kept.below HB.out hk3 (Below.size HB.out) (fun i hi => (HL.out.its i hi).1)
        have HU3 : Hid (NewL w.heap.size w3 u5 F2) := own_kept HU.out hk3 HAP.out
        have HL3 : Hid _ := hl3
        have HAP3 : Hid (∀ i, u5.ownBlock = some i → ¬ Its w.heap.size v3 i) := fun i hi hit => by
          rcases hit with rfl | hit
          · exact HAP.out _ hi (.inl rfl)
          · rcases hm3 i hit with h | h
            · exact HAP.out i hi (.inr h)
            · have := (own_type HU.out i hi).1
              omega
        have HTE : Hid (fillL (X.take (k + 1)) = (putL F1 y, F2 ++ [y])) := by
          show _ = _
          rw [HTK.out]
          unfold stepF
          simp [h0]
        obtain ⟨g', off', e2, _, j0, j1, j2⟩ := lives_cell (HX.out.here HB3.out) HY.out
        cases e2
        obtain ⟨wa, hwa⟩ : ∃ wa, wa = w3.alloc (.cells #[.int .i64 y.p, .int .u64 y.b, .int .u64 y.d] 34) := ⟨_, rfl⟩
        have hba : Below w3.heap.size w3 wa := by rw [hwa]; exact below_new w3 _
        have HUA : Hid (NewL w.heap.size wa u5 F2) := own_here HU3.out hba
        have HBA : Hid (Below w3.heap.size w3 wa) := hba
        have HLA : Hid (ListAt w.heap.size wa w.heap.size v3 (putL F1 y)) := HL3.out.below hba
        have HSA : Hid (∀ j u, (flatL [y])[j]? = some u → wa.cell? ((⟨w3.heap.size, 0, none⟩ : Addr).add j) = some u) := fun j u hj => by
          rw [add_at, Nat.zero_add, hwa, row_cell (heap_alloc_last w3 _)]
          rw [show flatL [y] = [.int .i64 y.p, .int .u64 y.b, .int .u64 y.d] from rfl] at hj
          rw [← Array.getElem?_toList]
          exact hj
        have HWS : Hid (w.heap.size ≤ wa.heap.size) := Nat.le_trans (Below.size HB3.out) (Below.size HBA.out)
        clear hba hl3 hk3 hm3
        subst hwa
        go_wp2_with (at_builtin; refine wpList_append_lies _ rfl _ _ 39 rfl w.heap.size 34 i0 _ 3 24 Try.underlying39 hi0 hz0 hz1 hz2 rfl (by decide) u5 F2.length _ rfl HUA.out ⟨w3.heap.size, 0, none⟩ 1 1 (flatL [y]) rfl (flatL_length [y]) HSA.out (flatL_one _) (by decide) (by have := HLS.out; unfold maxLen; omega) (by have := HLS.out; omega) HWS.out _ rfl ?_; intro g6 c6 w6 hown hgr hat _; have HO : Hid _ := hown; have HG : Hid _ := hgr; have HA : Hid _ := hat; clear hown hgr hat)
        refine ⟨⟨k + 1, by omega, by go_num, v3, ?_, ?_, ?_, ?_⟩, by simp [intOf]; omega⟩
        · rw [HTE.out]
          exact HLA.out.kept (Kept.of_grown (S := fun i => u5.ownBlock = some i) HG.out (fun k hk => hk)) (fun i hit hi => HAP3.out i hi hit)
        · rw [HTE.out]
          show w6.ownsRow w.heap.size 34 3 _ (F2 ++ [y]).length (flatL (F2 ++ [y]))
          rw [flatL_append, List.length_append]
          exact HO.out
        · exact (Below.trans HB3.out (Below.mono HBA.out (Below.size HB3.out))).trans ((Below.refl _ _).grown HG.out HWS.out (fun k e => (own_type HUA.out k e).2.1))
        · intro i hi hit
          have hi' : g6 = i := by simpa [Value.ownBlock] using hi
          subst hi'
          rcases HA.out with h | h
          · exact HAP3.out g6 h hit
          · have h3 := (HL3.out.its g6 hit).2
            have h2 := Below.size HBA.out
            omega
      · have h0b : (putE F1 y == 0) = false := by simpa using h0
        go_wp2_with fail
        refine HPC.out.mono ?_
        rintro e w3 ⟨v3, rfl, hl3, hk3, hm3⟩
        have HB3 : Hid (Below w.heap.size w w3) := Kept.below HB.out hk3 (Below.size HB.out) (fun i hi => (HL.out.its i hi).1)
        have HU3 : Hid (NewL w.heap.size w3 u5 F2) := own_kept HU.out hk3 HAP.out
        have HL3 : Hid _ := hl3
        have HAP3 : Hid (∀ i, u5.ownBlock = some i → ¬ Its w.heap.size v3 i) := fun i hi hit => by
          rcases hit with rfl | hit
          · exact HAP.out _ hi (.inl rfl)
          · rcases hm3 i hit with h | h
            · exact HAP.out i hi (.inr h)
            · have := (own_type HU.out i hi).1
              omega
        have HTE : Hid (fillL (X.take (k + 1)) = (putL F1 y, F2)) := by
          show _ = _
          rw [HTK.out]
          unfold stepF
          simp [h0]
        clear hl3 hk3 hm3
        generalize putE F1 y = z at h0 h0b
        go_wp2_with fail
        exact ⟨⟨k + 1, by omega, by go_num, v3, by rw [HTE.out]; exact HL3.out, by rw [HTE.out]; exact HU3.out, HB3.out, HAP3.out⟩, by simp [intOf]; omega⟩
    · have hltz : ¬ (k : Int) < (X.length : Int) := by omega
      have HE : Hid (X.take k = X) := List.take_of_length_le (by omega)
      rw [HE.out] at HL HU
      clear hl hu hb hle hle1 htk
      go_wp2_with fail
      go_ret2
      exact ⟨w.heap.size, v, _, rfl, HL.out, HU.out, HB.out, HAP.out⟩
end Go.Proofs.Ytcfmcakdgamdmaa
