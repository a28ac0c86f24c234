/- The document's New, Used, Left. -/
import Derived.Test.YtlokplnapaghhaaDoorRef
namespace Go.Proofs.YtlokplnapaghhaaDoor
open Go.RowKit

set_option maxRecDepth 100000 in
theorem rnew_bad (w : World) (blocks used : Int) (h : newOk blocks used = false) :
    Calls Tryd.prog 10 #[.int .i64 blocks, .int .i64 used] w fun e w' => e = .returned (.tuple #[.pointer none, .int .i64 1]) ∧ w' = w := by
  have hc : blocks < 16 ∨ (¬ blocks < 16 ∧ 65536 < blocks) ∨ (¬ blocks < 16 ∧ ¬ 65536 < blocks ∧ used < 0) ∨ (¬ blocks < 16 ∧ ¬ 65536 < blocks ∧ ¬ used < 0 ∧ blocks < used) := by
    by_cases h1 : blocks < 16
    · exact .inl h1
    · by_cases h2 : 65536 < blocks
      · exact .inr (.inl ⟨h1, h2⟩)
      · by_cases h3 : used < 0
        · exact .inr (.inr (.inl ⟨h1, h2, h3⟩))
        · refine .inr (.inr (.inr ⟨h1, h2, h3, ?_⟩))
          have h4 : ¬ used ≤ blocks := by
            intro h4
            have e1 : (16 ≤ blocks) := by omega
            have e2 : (blocks ≤ 65536) := by omega
            have e3 : (0 ≤ used) := by omega
            simp [newOk, e1, e2, e3, h4] at h
          omega
  clear h
  rcases hc with h1 | ⟨h1, h2⟩ | ⟨h1, h2, h3⟩ | ⟨h1, h2, h3, h4⟩
  all_goals
    go_enter Tryd.func10, Tryd.ntmps10
    go_wp2
    go_ret2
    exact ⟨rfl, rfl⟩
theorem built_ref (a : Option Addr) (n c : Nat) : Tryd.prog.built 66 [(0, .slice a n c)] = some #[.slice a n c] := by kernel_rfl
/-- A new space of the document's. -/
structure NewRef (w : World) (w' : World) (b : Nat) (s : Sp) : Prop where
  is : ∃ g c, RefAt w' b g c s ∧ w.heap.size ≤ g
  le : w.heap.size ≤ b
set_option maxRecDepth 100000 in
set_option maxHeartbeats 800000 in
theorem rnew_ok (w : World) (n u : Nat) (h1 : 16 ≤ n) (h2 : n ≤ 65536) (hu : u ≤ n) :
    Calls Tryd.prog 10 #[.int .i64 n, .int .i64 u] w fun e w' => ∃ b, e = .returned (.tuple #[.pointer (some ⟨b, 0, none⟩), .int .i64 0]) ∧ NewRef w w' b ((Sp.empty n).use 0 u) ∧ Below w.heap.size w w' := by
  obtain ⟨iO, hiO, hzO0, hzO1, hzO2⟩ := infoO'
  have g1 : ¬ (n : Int) < 16 := by omega
  have g2 : ¬ (65536 : Int) < (n : Int) := by omega
  have g3 : ¬ (u : Int) < 0 := by omega
  have g4 : ¬ (n : Int) < (u : Int) := by omega
  go_enter Tryd.func10, Tryd.ntmps10
  go_wp2_with (first
    | (refine wpList_built rfl 66 _ rfl (.slice (some ⟨w.heap.size, 0, none⟩) n n) rfl _ (built_ref _ _ _) ?_)
    | (at_make
       refine wpList_make_full _ rfl _ _ 51 rfl w.heap.size 4 iO (.bool false) 1 Tryd.underlying51 hiO hzO0 hzO1 _ _ _ _ n rfl rfl (by omega) (by omega) (by rw [hzO2]; omega) (by unfold maxLen; omega) (Nat.le_refl _) ?_
       intro w3 hown3 hg3
       rw [madeBools] at hown3
       have HO3 : Hid (RowU w3 w.heap.size n (fun _ => false)) := own_bools hown3
       have HB3 : Hid (Below w.heap.size w w3) := (Below.refl _ _).grown hg3 (Nat.le_refl _) (fun k h => by cases h)
       clear hown3 hg3))
  obtain ⟨w4, hw4⟩ : ∃ w4, w4 = w3.alloc (.cells #[.slice (some ⟨w.heap.size, 0, none⟩) n n] 66) := ⟨_, rfl⟩
  rw [← hw4]
  have hb34 : Below w3.heap.size w3 w4 := by rw [hw4]; exact (Below.refl _ _).alloc (Nat.le_refl _) _
  have H4 : Hid (RefAt w4 w3.heap.size w.heap.size n (Sp.empty n)) := by
    have hr := HO3.out.below hb34
    refine ⟨by rw [hw4]; exact heap_alloc_last _ _, ⟨_, hr.row, fun i hi => ?_⟩, Nat.le_refl _, Sp.Ok.empty h1 h2⟩
    rw [ucells_at (show i < n from hi), Sp.has_empty]
  have HB4 : Hid (Below w.heap.size w w4) := HB3.out.trans (hb34.mono HB3.out.size)
  obtain ⟨b, hb⟩ : ∃ b, b = w3.heap.size := ⟨_, rfl⟩
  have hwb : w.heap.size ≤ b := by rw [hb]; exact HB3.out.size
  rw [← hb] at H4 ⊢
  clear hw4 hb34 hb HO3 HB3
  go_loopw [7] (fun i wx => ∃ k : Nat, k ≤ u ∧ i = .int .i64 k ∧ RefAt wx b w.heap.size n ((Sp.empty n).use 0 k) ∧ Below w.heap.size w wx) (fun i _ => u - (intOf i).toNat)
  case atStart => exact ⟨0, by omega, rfl, H4.out, HB4.out⟩
  case round =>
    obtain ⟨k, hk, rfl, hr, hbl⟩ := hrel
    by_cases hlt : k < u
    · have hltz : (k : Int) < (u : Int) := by omega
      have hkn : (k : Int) < (n : Int) := by omega
      have c0 := hr.cell
      have hn0 : ((Sp.empty n).use 0 k).n = n := Sp.use_n _ _ _
      rw [hn0] at c0
      have hcl := hr.at (i := k) (by rw [hn0]; omega)
      have hop := hr.open k
      have ht := hr.turn (i := k) (by rw [hn0]; omega)
      have hf : ((Sp.empty n).use 0 k).has k = false := by rw [Sp.new_has]; simp
      rw [hf] at ht hcl
      have e : ((Sp.empty n).use 0 k).turn k = (Sp.empty n).use 0 (k + 1) := by rw [Sp.use, Nat.zero_add]
      rw [e] at ht
      have HR : Hid (RefAt (wr.setCell ⟨w.heap.size, k, none⟩ (.bool true)) b w.heap.size n ((Sp.empty n).use 0 (k + 1))) := ht
      have HB : Hid (Below w.heap.size w (wr.setCell ⟨w.heap.size, k, none⟩ (.bool true))) := Kept.below hbl (setCell_kept _) hbl.size (fun i hi => by omega)
      clear hr hbl ht hf e hn0
      go_wp2
      exact ⟨⟨k + 1, by omega, by go_num, HR.out, HB.out⟩, by simp [intOf]; omega⟩
    · have hltz : ¬ (k : Int) < (u : Int) := by omega
      have HE : Hid (k = u) := by show _ = _; omega
      have HR : Hid _ := hr
      have HB : Hid _ := hbl
      clear hr hbl
      go_wp2
      go_ret2
      exact ⟨b, rfl, ⟨⟨w.heap.size, n, by rw [← HE.out]; exact HR.out, Nat.le_refl _⟩, hwb⟩, HB.out⟩
set_option maxHeartbeats 800000 in
theorem rused_any (w : World) (b g c : Nat) (s : Sp) (h : RefAt w b g c s) :
    Calls Tryd.prog 17 #[.pointer (some ⟨b, 0, none⟩)] w fun e w' => e = .returned (.int .i64 (s.used : Int)) ∧ w' = w := by
  have c0 := h.cell
  have h65 := h.ok.high
  have H : Hid (RefAt w b g c s) := h
  clear h
  go_enter Tryd.func17, Tryd.ntmps17
  go_wp2
  go_loop [3, 4] (fun m i => ∃ k : Nat, k ≤ s.n ∧ i = .int .i64 k ∧ m = .int .i64 (cnt s.has k : Nat)) (fun _ i => 65536 - (intOf i).toNat)
  case atStart => exact ⟨0, by omega, rfl, rfl⟩
  case round =>
    obtain ⟨k, hk, rfl, rfl⟩ := hrel
    have hcl := cnt_le s.has k
    by_cases hlt : k < s.n
    · have hltz : (k : Int) < (s.n : Int) := by omega
      have hat := H.out.at hlt
      have HN : Hid (cnt s.has (k + 1) = cnt s.has k + (if s.has k then 1 else 0)) := rfl
      cases hh : s.has k with
      | true =>
        rw [hh] at hat HN
        clear hh
        go_wp2
        exact ⟨⟨k + 1, by omega, by go_num, by rw [HN.out]; go_num⟩, by simp [intOf]; omega⟩
      | false =>
        rw [hh] at hat HN
        clear hh
        go_wp2
        exact ⟨⟨k + 1, by omega, by go_num, by rw [HN.out]; rfl⟩, by simp [intOf]; omega⟩
    · have hltz : ¬ (k : Int) < (s.n : Int) := by omega
      have HE : Hid (k = s.n) := by show _ = _; omega
      go_wp2
      go_ret
      exact ⟨by rw [Sp.used, ← HE.out]; rfl, rfl⟩
set_option maxHeartbeats 800000 in
theorem rleft_any (w : World) (b g c : Nat) (s : Sp) (h : RefAt w b g c s) :
    Calls Tryd.prog 19 #[.pointer (some ⟨b, 0, none⟩)] w fun e w' => e = .returned (.int .i64 ((s.n - s.used : Nat) : Int)) ∧ ∃ q, w' = w.drewN q := by
  have c0 := h.cell
  have h1 := h.ok.high
  have hu := s.used_le
  have HU : ∀ q, Calls Tryd.prog 17 #[.pointer (some ⟨b, 0, none⟩)] (w.drewN q) fun e w' => e = .returned (.int .i64 (s.used : Int)) ∧ w' = w.drewN q := fun q => rused_any _ b g c s ⟨h.box, h.row, h.le, h.ok⟩
  have hS : Hid (((s.n - s.used : Nat) : Int) = (s.n : Int) - (s.used : Int)) := by show _ = _; omega
  generalize s.used = u at HU hu hS
  clear h
  go_enter Tryd.func19, Tryd.ntmps19
  go_wp2
  go_quiet ((go_at_call 17; exact Calls.quiet_of_same (HU _)))
  go_wp2
  go_ret
  exact ⟨by rw [hS.out]; rfl, _, rfl⟩
end Go.Proofs.YtlokplnapaghhaaDoor
