/- The document's Runs. -/
import Derived.Test.YtlokplnapaghhaaDoorRef2
namespace Go.Proofs.YtlokplnapaghhaaDoor
open Go.RowKit

def bump (L : List (Nat × Nat)) : List (Nat × Nat) := match L.getLast? with
  | some r => L.dropLast ++ [(r.1, r.2 + 1)]
  | none => L
theorem bump_snoc (P : List (Nat × Nat)) (a c : Nat) : bump (P ++ [(a, c)]) = P ++ [(a, c + 1)] := by simp [bump]
/-- The runs of the blocks ahead of i. -/
def rf (U : Nat → Bool) : Nat → List (Nat × Nat)
  | 0 => []
  | i + 1 => if U i then (if 0 < i ∧ U (i - 1) = true then bump (rf U i) else rf U i ++ [(i, 1)]) else rf U i
/-- How the last one stands. -/
inductive RfAt (U : Nat → Bool) (n i : Nat) : Prop
  | used (P : List (Nat × Nat)) (a m : Nat) : 0 < i → U (i - 1) = true → rf U i = P ++ [(a, i - a)] → Ahead n P m → m ≤ a → a < i → RfAt U n i
  | free (m : Nat) : (0 < i → U (i - 1) = false) → Ahead n (rf U i) m → m ≤ i → RfAt U n i
theorem rfAt_step {U : Nat → Bool} {n i : Nat} (h : RfAt U n i) (hi : i < n) : RfAt U n (i + 1) := by
  cases hu : U i with
  | true =>
    cases h with
    | used P a m h1 h2 h3 h4 h5 h6 =>
      refine .used P a m (by omega) (by simpa using hu) ?_ h4 h5 (by omega)
      rw [rf, if_pos hu, if_pos ⟨h1, h2⟩, h3, bump_snoc]
      rw [show i - a + 1 = i + 1 - a by omega]
    | free m h1 h2 h3 =>
      refine .used (rf U i) i m (by omega) (by simpa using hu) ?_ h2 h3 (by omega)
      rw [rf, if_pos hu, if_neg (by rintro ⟨h4, h5⟩; rw [h1 h4] at h5; cases h5), show i + 1 - i = 1 by omega]
  | false =>
    have e : rf U (i + 1) = rf U i := by rw [rf, if_neg (by simp [hu])]
    cases h with
    | used P a m h1 h2 h3 h4 h5 h6 =>
      refine .free (a + (i - a) + 1) (fun _ => by simpa using hu) ?_ (by omega)
      rw [e, h3]
      exact h4.snoc h5 (by omega) (by omega)
    | free m h1 h2 h3 =>
      exact .free m (fun _ => by simpa using hu) (by rw [e]; exact h2) (by omega)
theorem rfAt_all (U : Nat → Bool) (n : Nat) : ∀ i, i ≤ n → RfAt U n i
  | 0, _ => .free 0 (fun h => by omega) (Ahead.nil n) (Nat.le_refl _)
  | i + 1, h => rfAt_step (rfAt_all U n i (by omega)) (by omega)
theorem inRuns_bump {P : List (Nat × Nat)} {a c k : Nat} : inRuns (P ++ [(a, c + 1)]) k = (inRuns (P ++ [(a, c)]) k || decide (k = a + c)) := by
  rw [inRuns_append, inRuns_append, Bool.or_assoc]
  congr 1
  simp [inRuns]
  by_cases h : a ≤ k ∧ k < a + c
  · simp [h.1, h.2]; omega
  · by_cases e : k = a + c
    · subst e; simp
    · have : ¬ (a ≤ k ∧ k < a + (c + 1)) := by omega
      by_cases h1 : a ≤ k
      · have h2 : ¬ k < a + c := by omega
        have h3 : ¬ k < a + (c + 1) := by omega
        simp [h2, h3, e]
      · simp [h1, e]
theorem rf_has (U : Nat → Bool) (n : Nat) : ∀ i, i ≤ n → ∀ k, inRuns (rf U i) k = (decide (k < i) && U k)
  | 0, _, k => by simp [rf, inRuns]
  | i + 1, h, k => by
    have ih := rf_has U n i (by omega) k
    cases hu : U i with
    | false =>
      rw [rf, if_neg (by simp [hu]), ih]
      by_cases e : k = i
      · subst e; simp [hu]
      · by_cases hk : k < i
        · have : k < i + 1 := by omega
          simp [hk, this]
        · have : ¬ k < i + 1 := by omega
          simp [hk, this]
    | true =>
      have hadd : (decide (k < i + 1) && U k) = ((decide (k < i) && U k) || decide (k = i)) := by
        by_cases e : k = i
        · subst e; simp [hu]
        · by_cases hk : k < i
          · have : k < i + 1 := by omega
            simp [hk, this, e]
          · have : ¬ k < i + 1 := by omega
            simp [hk, this, e]
      rw [hadd, ← ih]
      cases rfAt_all U n i (by omega) with
      | used P a m h1 h2 h3 h4 h5 h6 =>
        rw [rf, if_pos hu, if_pos ⟨h1, h2⟩, h3, bump_snoc, inRuns_bump, show a + (i - a) = i by omega]
      | free m h1 h2 h3 =>
        rw [rf, if_pos hu, if_neg (by rintro ⟨h4, h5⟩; rw [h1 h4] at h5; cases h5), inRuns_append]
        congr 1
        simp [inRuns]
        by_cases e : k = i
        · subst e; simp
        · by_cases h5 : i ≤ k
          · have : ¬ k < i + 1 := by omega
            simp [this, e]
          · simp [h5, e]
theorem Sp.rf_runs (s : Sp) : rf s.has s.n = s.runs := by
  refine (s.runs_of ?_ (fun k hk => ?_)).symm
  · cases rfAt_all s.has s.n s.n (Nat.le_refl _) with
    | used P a m h1 h2 h3 h4 h5 h6 =>
      rw [h3]
      have := (h4.snoc h5 (show 1 ≤ s.n - a by omega) (by omega)).iff []
      rw [List.append_nil] at this
      exact this.2 .nil
    | free m h1 h2 h3 =>
      have := h2.iff []
      rw [List.append_nil] at this
      exact this.2 .nil
  · rw [rf_has s.has s.n s.n (Nat.le_refl _)]; simp [hk]
theorem rf_length (U : Nat → Bool) : ∀ i, (rf U i).length ≤ i
  | 0 => by simp [rf]
  | i + 1 => by
    have ih := rf_length U i
    rw [rf]
    split
    · split
      · cases hl : (rf U i).getLast? with
        | none => simp only [bump, hl]; omega
        | some r => simp only [bump, hl, List.length_append, List.length_dropLast, List.length_singleton]; omega
      · simp; omega
    · omega
theorem flatR_bump (P : List (Nat × Nat)) (a c : Nat) (cur : Array Value) (m : Nat) (h : cur.toList.take m = flatR (P ++ [(a, c)])) :
    (cur.setIfInBounds (P.length * 2 + 1) (.int .i64 ((c + 1 : Nat) : Int))).toList.take m = flatR (P ++ [(a, c + 1)]) := by
  rw [Array.toList_setIfInBounds, List.take_set, h, flatR_append, flatR_append]
  rw [List.set_append_right _ _ (by rw [flatR_length]; omega), flatR_length]
  simp [flatR, show P.length * 2 + 1 - P.length * 2 = 1 by omega]
theorem newR_bump {base : Nat} {w : World} {g n cap : Nat} {P : List (Nat × Nat)} {a c : Nat} (hn : n = P.length + 1) (h : NewR base w (.slice (some ⟨g, 0, none⟩) n cap) (P ++ [(a, c)])) :
    NewR base (w.setCell ⟨g, P.length * 2 + 1, none⟩ (.int .i64 ((c + 1 : Nat) : Int))) (.slice (some ⟨g, 0, none⟩) n cap) (P ++ [(a, c + 1)]) := by
  obtain ⟨h1, h2⟩ := h
  refine ⟨by rw [flatR_length], ?_⟩
  rcases h2 with ⟨e, _⟩ | ⟨g', cap', cur, e, hb, hg, hc, hm, hs, ht⟩
  · cases e
  · cases e
    have hl : (P ++ [(a, c + 1)]).length = (P ++ [(a, c)]).length := by simp
    refine .inr ⟨g, cap, cur.setIfInBounds (P.length * 2 + 1) (.int .i64 ((c + 1 : Nat) : Int)), ?_, hb, heap_set_same _ hg, by rw [hl]; exact hc, hm, by simpa using hs, ?_⟩
    · rw [hl]
    · rw [hl]
      exact flatR_bump P a c cur _ ht
set_option maxHeartbeats 1600000 in
theorem rruns_any (w : World) (b g c : Nat) (s : Sp) (h : RefAt w b g c s) :
    Calls Tryd.prog 13 #[.pointer (some ⟨b, 0, none⟩)] w fun e w' => ∃ v, e = .returned v ∧ NewR w.heap.size w' v s.runs ∧ Below w.heap.size w w' := by
  have h65 := h.ok.high
  have H : Hid (RefAt w b g c s) := h
  clear h
  go_enter Tryd.func13, Tryd.ntmps13
  go_wp2
  go_loopw [3, 4] (fun u i wx => ∃ k : Nat, k ≤ s.n ∧ i = .int .i64 k ∧ NewR w.heap.size wx u (rf s.has k) ∧ Below w.heap.size w wx) (fun _ i _ => 65536 - (intOf i).toNat)
  case atStart => exact ⟨0, by omega, rfl, World.ownsRow_nil _ _ _ _, Below.refl _ _⟩
  case round =>
    obtain ⟨k, hk, rfl, hu, hbl⟩ := hrel
    have hr := H.out.below hbl
    have c0 := hr.cell
    have hsz := hbl.size
    have HB : Hid (Below w.heap.size w wr) := hbl
    by_cases hlt : k < s.n
    · have hltz : (k : Int) < (s.n : Int) := by omega
      have hat := hr.at hlt
      have hlen := rf_length s.has k
      cases hh : s.has k with
      | false =>
        rw [hh] at hat
        have HN : Hid (rf s.has (k + 1) = rf s.has k) := by rw [Hid, rf, if_neg (by simp [hh])]
        have HU : Hid _ := hu
        clear hh hu hbl hr
        go_wp2
        exact ⟨⟨k + 1, by omega, by go_num, by rw [HN.out]; exact HU.out, HB.out⟩, by simp [intOf]; omega⟩
      | true =>
        rw [hh] at hat
        rcases rfAt_all s.has s.n k (by omega) with ⟨P, a, m, h1, h2, h3, h4, h5, h6⟩ | ⟨m, h1, h2, h3⟩
        · have HN : Hid (rf s.has (k + 1) = P ++ [(a, k - a + 1)]) := by rw [Hid, rf, if_pos hh, if_pos ⟨h1, h2⟩, h3, bump_snoc]
          rw [h3] at hu hlen
          have hk0 : (0 : Int) < (k : Int) := by omega
          have hpl : P.length < 65536 := by simp at hlen; omega
          obtain ⟨j, hj⟩ : ∃ j, j = k - 1 := ⟨_, rfl⟩
          have hkm : (k : Int) - 1 = (j : Int) := by omega
          have hkm2 : (j : Int) < (s.n : Int) := by omega
          have hat2 := hr.at (i := j) (by omega)
          rw [hj, h2, ← hj] at hat2
          clear hj
          rcases own_row hu with ⟨e, h0⟩ | ⟨gr, cap, rfl, hgb, hgl, hcell⟩
          · simp at h0
          · have hpl1 : (P ++ [(a, k - a)]).length = P.length + 1 := by simp
            rw [hpl1] at hu ⊢
            have hfl := flatR_at (L := P ++ [(a, k - a)]) (k := P.length) (r := (a, k - a)) (by simp)
            have hcc := hcell _ _ hfl.2
            have hfz : wr.frozen? ⟨gr, P.length * 2 + 1, none⟩ = false := by
              obtain ⟨_, _, cur, hcur⟩ := own_type hu gr rfl
              exact row_frozen hcur _
            have hbm := newR_bump (base := w.heap.size) (w := wr) (g := gr) (n := P.length + 1) (cap := cap) (P := P) (a := a) (c := k - a) rfl hu
            have hv : ((k - a + 1 : Nat) : Int) = ((k - a : Nat) : Int) + 1 := by omega
            rw [hv] at hbm
            have HU : Hid (NewR w.heap.size (wr.setCell ⟨gr, P.length * 2 + 1, none⟩ (.int .i64 (((k - a : Nat) : Int) + 1))) (.slice (some ⟨gr, 0, none⟩) (P.length + 1) cap) (P ++ [(a, k - a + 1)])) := hbm
            have HB2 : Hid (Below w.heap.size w (wr.setCell ⟨gr, P.length * 2 + 1, none⟩ (.int .i64 (((k - a : Nat) : Int) + 1)))) := Kept.below HB.out (setCell_kept _) HB.out.size (fun i hi => by omega)
            have hka : k - a ≤ 65536 := by omega
            generalize k - a = d at HU HB2 HN hcc hka
            clear hv hh hu hbl hr h1 h2 h3 h4 h5 h6 hcell hfl hbm hpl1 hlen
            go_wp2
            exact ⟨⟨k + 1, by omega, by go_num, by rw [HN.out]; exact HU.out, HB2.out⟩, by simp [intOf]; omega⟩
        · have HN : Hid (rf s.has (k + 1) = rf s.has k ++ [(k, 1)]) := by
            rw [Hid, rf, if_pos hh, if_neg (by rintro ⟨h4, h5⟩; rw [h1 h4] at h5; cases h5)]
          obtain ⟨wa, hwa⟩ : ∃ wa, wa = wr.alloc (.cells #[.int .i64 (k : Int), .int .i64 1] 64) := ⟨_, rfl⟩
          have hba : Below wr.heap.size wr wa := by rw [hwa]; exact (Below.refl _ _).alloc (Nat.le_refl _) _
          have hca0 : wa.cell? ⟨wr.heap.size, 0, none⟩ = some (.int .i64 (k : Int)) := by rw [hwa, row_cell (heap_alloc_last wr _)]; rfl
          have hca1 : wa.cell? ⟨wr.heap.size, 1, none⟩ = some (.int .i64 ((1 : Nat) : Int)) := by rw [hwa, row_cell (heap_alloc_last wr _)]; rfl
          have hsz2 := hba.size
          have HUA : Hid (NewR w.heap.size wa _ (rf s.has k)) := own_here hu hba
          have HBA : Hid (Below w.heap.size w wa) := hbl.trans (hba.mono (by omega))
          have HC0 : Hid _ := hca0
          have HC1 : Hid _ := hca1
          have hL2 : ((rf s.has k).length + 1) * 16 ≤ 140737488355328 := by omega
          by_cases hk0 : 0 < k
          · have hk0z : (0 : Int) < (k : Int) := by omega
            obtain ⟨j, hj⟩ : ∃ j, j = k - 1 := ⟨_, rfl⟩
            have hkm : (k : Int) - 1 = (j : Int) := by omega
            have hkm2 : (j : Int) < (s.n : Int) := by omega
            have hat2 := hr.at (i := j) (by omega)
            rw [hj, h1 hk0, ← hj] at hat2
            clear hj
            clear hh hu hbl hr h1 h2 h3 hca0 hca1 hba
            subst hwa
            go_wp2_with (at_builtin; refine wpList_append_run rfl _ _ rfl w.heap.size _ _ (k, 1) rfl HUA.out wr.heap.size rfl HC0.out HC1.out hL2 HBA.out.size ?_; intro v2 w2 hv2 _ hb2)
            exact ⟨⟨k + 1, by omega, by go_num, by rw [HN.out]; exact hv2, HBA.out.trans hb2.low⟩, by simp [intOf]; omega⟩
          · have hk0z : ¬ (0 : Int) < (k : Int) := by omega
            clear hh hu hbl hr h1 h2 h3 hca0 hca1 hba
            subst hwa
            go_wp2_with (at_builtin; refine wpList_append_run rfl _ _ rfl w.heap.size _ _ (k, 1) rfl HUA.out wr.heap.size rfl HC0.out HC1.out hL2 HBA.out.size ?_; intro v2 w2 hv2 _ hb2)
            exact ⟨⟨k + 1, by omega, by go_num, by rw [HN.out]; exact hv2, HBA.out.trans hb2.low⟩, by simp [intOf]; omega⟩
    · have hltz : ¬ (k : Int) < (s.n : Int) := by omega
      have HE : Hid (rf s.has k = s.runs) := by
        have : k = s.n := by omega
        rw [Hid, this, Sp.rf_runs]
      have HU : Hid _ := hu
      clear hu hbl hr
      go_wp2
      go_ret
      exact ⟨_, rfl, by rw [← HE.out]; exact HU.out, HB.out⟩
end Go.Proofs.YtlokplnapaghhaaDoor
