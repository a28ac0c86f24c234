/- sorted and alike of banyanref06. -/
import Derived.Test.YtaehchijeinloaaSorts
import Derived.Test.YtaehchijeinloaaRead
import Derived.Deep.AppendLies
import Derived.Deep.DeepCutAuto
namespace Go.Proofs.Ytaehchijeinloaa
open Go.RowKit

/-- Two rising rows, while they are made one. -/
structure MixI (A B C : List Int) (i k : Nat) : Prop where
  perm : C.Perm (A.take i ++ B.take k)
  rise : C.Pairwise (· ≤ ·)
  low : ∀ x ∈ C, (∀ y ∈ A.drop i, x ≤ y) ∧ (∀ y ∈ B.drop k, x ≤ y)
theorem rise_least {A : List Int} (h : A.Pairwise (· ≤ ·)) {i : Nat} {x : Int} (hx : A[i]? = some x) : ∀ y ∈ A.drop i, x ≤ y := fun y hy => by
  have hl := (List.getElem?_eq_some_iff.1 hx).1
  have hd : A.drop i = x :: A.drop (i + 1) := by
    rw [List.drop_eq_getElem_cons hl]
    rw [List.getElem?_eq_getElem hl] at hx
    cases hx
    rfl
  have hp : (A.drop i).Pairwise (· ≤ ·) := h.sublist (List.drop_sublist _ _)
  rw [hd] at hy hp
  rcases List.mem_cons.1 hy with rfl | hy
  · exact Int.le_refl _
  · exact (List.pairwise_cons.1 hp).1 y hy
theorem rise_snoc {C : List Int} {x : Int} (h : C.Pairwise (· ≤ ·)) (hx : ∀ y ∈ C, y ≤ x) : (C ++ [x]).Pairwise (· ≤ ·) :=
  List.pairwise_append.2 ⟨h, List.pairwise_singleton _ _, fun a ha b hb => by simp at hb; rw [hb]; exact hx a ha⟩
theorem mem_drop_nextI {A : List Int} {i : Nat} {y : Int} (h : y ∈ A.drop (i + 1)) : y ∈ A.drop i := by
  rw [← List.drop_drop] at h
  exact List.mem_of_mem_drop h
theorem MixI.left {A B C : List Int} {i k : Nat} {x : Int} (h : MixI A B C i k) (hA : A.Pairwise (· ≤ ·)) (hx : A[i]? = some x) (hb : ∀ y ∈ B.drop k, x ≤ y) : MixI A B (C ++ [x]) (i + 1) k := by
  have hm : x ∈ A.drop i := List.mem_of_getElem? (i := 0) (by rw [List.getElem?_drop]; simpa using hx)
  refine ⟨?_, rise_snoc h.rise fun y hy => (h.low y hy).1 x hm, fun z hz => ?_⟩
  · rw [List.take_add_one, hx]
    simp only [Option.toList_some]
    refine (h.perm.append_right [x]).trans ?_
    rw [List.append_assoc, List.append_assoc]
    exact List.Perm.append_left _ List.perm_append_comm
  · rcases List.mem_append.1 hz with hz | hz
    · exact ⟨fun y hy => (h.low z hz).1 y (mem_drop_nextI hy), (h.low z hz).2⟩
    · simp at hz
      rw [hz]
      exact ⟨fun y hy => rise_least hA hx y (mem_drop_nextI hy), hb⟩
theorem MixI.right {A B C : List Int} {i k : Nat} {x : Int} (h : MixI A B C i k) (hB : B.Pairwise (· ≤ ·)) (hx : B[k]? = some x) (hb : ∀ y ∈ A.drop i, x ≤ y) : MixI A B (C ++ [x]) i (k + 1) := by
  have hm : x ∈ B.drop k := List.mem_of_getElem? (i := 0) (by rw [List.getElem?_drop]; simpa using hx)
  refine ⟨?_, rise_snoc h.rise fun y hy => (h.low y hy).2 x hm, fun z hz => ?_⟩
  · rw [List.take_add_one, hx]
    simp only [Option.toList_some]
    refine (h.perm.append_right [x]).trans ?_
    rw [List.append_assoc]
  · rcases List.mem_append.1 hz with hz | hz
    · exact ⟨(h.low z hz).1, fun y hy => (h.low z hz).2 y (mem_drop_nextI hy)⟩
    · simp at hz
      rw [hz]
      exact ⟨hb, fun y hy => rise_least hB hx y (mem_drop_nextI hy)⟩
theorem drop_noneI {A : List Int} {i : Nat} (h : A.length ≤ i) {p : Int → Prop} : ∀ y ∈ A.drop i, p y := fun y hy => by
  rw [List.drop_eq_nil_of_le h] at hy
  simp at hy
theorem own_formI {w : World} {base n s : Nat} {T : TypeId} {v : Value} {xs : List Value} (h : w.ownsRow base T s v n xs) : ∃ a c, v = .slice a n c := by
  obtain ⟨_, ⟨e, h0⟩ | ⟨g, cap, cur, e, _⟩⟩ := h
  · exact ⟨_, _, by rw [e, h0]⟩
  · exact ⟨_, _, e⟩

set_option maxHeartbeats 3200000 in
set_option maxRecDepth 100000 in
theorem refSorted_step {w : World} {v : Value} {L : List Int} (h : IntsAt w.heap.size w v L)
    (ih : ∀ (w : World) (v : Value) (M : List Int), M.length < L.length → IntsAt w.heap.size w v M → Calls Try.prog 64 #[v] w fun e w' => ∃ v' N, e = .returned v' ∧ IntsAt w'.heap.size w' v' N ∧ N.Perm M ∧ N.Pairwise (· ≤ ·) ∧ Below w.heap.size w w') :
    Calls Try.prog 64 #[v] w fun e w' => ∃ v' N, e = .returned v' ∧ IntsAt w'.heap.size w' v' N ∧ N.Perm L ∧ N.Pairwise (· ≤ ·) ∧ Below w.heap.size w w' := by
  obtain ⟨i3, hi3, hz30, hz31, hz32⟩ := infoI'
  have HL : Hid (IntsAt w.heap.size w v L) := h
  have IH : Hid _ := ih
  obtain ⟨a, c, rfl⟩ := h.form
  have hs := h.short
  by_cases h2 : L.length < 2
  · have h2' : (L.length : Int) < 2 := by omega
    clear h ih
    go_enter Try.func64, Try.ntmps64
    go_wp2
    go_ret
    refine ⟨_, L, rfl, HL.out, List.Perm.refl _, ?_, Below.refl _ _⟩
    match L, h2 with
    | [], _ => exact List.Pairwise.nil
    | [x], _ => exact List.pairwise_singleton _ _
  · have h2' : ¬ (L.length : Int) < 2 := by omega
    have hcap : L.length ≤ c := by
      obtain ⟨a', c', e, h3, _⟩ := h.row.is
      simp only [Value.slice.injEq, List.length_map] at e
      obtain ⟨_, _, rfl⟩ := e
      rw [List.length_map] at h3
      exact h3
    obtain ⟨g, off, rfl⟩ : ∃ g off, a = some ⟨g, off, none⟩ := by
      obtain ⟨x, hx⟩ : ∃ x, L[0]? = some x := ⟨L[0]'(by omega), List.getElem?_eq_getElem _⟩
      obtain ⟨g, off, c', e, _⟩ := h.cell 0 x hx
      cases e
      exact ⟨g, off, rfl⟩
    clear h ih
    go_enter Try.func64, Try.ntmps64
    go_wp2_with fail
    obtain ⟨m, hm⟩ : ∃ m, L.length / 2 = m := ⟨_, rfl⟩
    have hm1 : m < L.length := by omega
    have hm2 : 0 < m := by omega
    refine (IH.out w _ (L.take m) (by simp; omega) (by rw [hm]; exact HL.out.take m (by omega) _ (by omega) (Nat.le_refl _))).mono ?_
    rintro e w1 ⟨va, A, rfl, hA, pA, rA, hb1⟩
    have HA : Hid (IntsAt w1.heap.size w1 va A) := hA
    have PA : Hid (A.Perm (L.take m)) := pA
    have RA : Hid (A.Pairwise (· ≤ ·)) := rA
    have HB1 : Hid (Below w.heap.size w w1) := hb1
    obtain ⟨a1, c1, rfl⟩ := hA.form
    clear hA pA rA hb1
    go_wp2_with fail
    refine (IH.out w1 _ (L.drop m) (by simp; omega) (by have h := (HL.out.drop m (by omega)).here HB1.out; exact h)).mono ?_
    rintro e w2 ⟨vb, B, rfl, hB, pB, rB, hb2⟩
    have HB : Hid (IntsAt w2.heap.size w2 vb B) := hB
    have HA2 : Hid (IntsAt w2.heap.size w2 (.slice a1 A.length c1) A) := HA.out.here hb2
    have PB : Hid (B.Perm (L.drop m)) := pB
    have RB : Hid (B.Pairwise (· ≤ ·)) := rB
    have HB2 : Hid (Below w.heap.size w w2) := HB1.out.trans (hb2.mono HB1.out.size)
    have hlA : A.length = m := by rw [PA.out.length_eq]; simp; omega
    have hlB : B.length = L.length - m := by rw [pB.length_eq]; simp
    obtain ⟨a2, c2, rfl⟩ := hB.form
    have hla : A.length ≤ m := Nat.le_of_eq hlA
    have hlb : B.length ≤ L.length - m := Nat.le_of_eq hlB
    have hlb2 : L.length - m ≤ B.length := Nat.le_of_eq hlB.symm
    have hla2 : m ≤ A.length := Nat.le_of_eq hlA.symm
    clear hB pB rB hb2 HA hlA hlB hm
    go_wp2_with fail
    go_loopw [5, 6, 7] (fun s5 s6 s7 wr => ∃ (i k : Nat) (C : List Int), s6 = .int .i64 i ∧ s7 = .int .i64 k ∧ i ≤ A.length ∧ k ≤ B.length ∧ C.length = i + k ∧ NewInts w2.heap.size wr s5 C ∧ MixI A B C i k ∧ Below w2.heap.size w2 wr) (fun _ s6 s7 _ => (A.length + B.length) - ((intOf s6).toNat + (intOf s7).toNat))
    case atStart => exact ⟨0, 0, [], rfl, rfl, Nat.zero_le _, Nat.zero_le _, rfl, NewInts.nil _ _, ⟨by simp, List.Pairwise.nil, fun x hx => by simp at hx⟩, Below.refl _ _⟩
    case round =>
      obtain ⟨i, k, C, rfl, rfl, hiA, hkB, hlC, hown, hmix, hbe⟩ := hrel
      have HOWN : Hid (NewInts w2.heap.size wr u5 C) := hown
      have HMIX : Hid (MixI A B C i k) := hmix
      have HBE : Hid (Below w2.heap.size w2 wr) := hbe
      have hsr : w2.heap.size ≤ wr.heap.size := hbe.size
      obtain ⟨a5, c5, rfl⟩ := own_formI hown.own
      have HLC : Hid (C.length = i + k) := hlC
      clear hown hmix hbe hlC
      by_cases hgo : i < A.length ∨ k < B.length
      · -- which one is next
        obtain ⟨T, hT⟩ : ∃ T : Bool, T = (decide (k = B.length) || (decide (i < A.length) && decide (A[i]?.getD 0 ≤ B[k]?.getD 0))) := ⟨_, rfl⟩
        have HT : Hid (T = (decide (k = B.length) || (decide (i < A.length) && decide (A[i]?.getD 0 ≤ B[k]?.getD 0)))) := hT
        have hways : (i : Int) < (A.length : Int) ∨ (k : Int) < (B.length : Int) := by omega
        clear hT
        go_upto_region 9 with fail
        all_goals
          go_cut [54] (fun s54 wx => s54 = .bool T ∧ Below wr.heap.size wr wx)
          case first =>
            by_cases hB : k < B.length
            · have hBz : ((k : Int) == (B.length : Int)) = false := beq_eq_false_iff_ne.2 (by omega)
              obtain ⟨y, hy⟩ : ∃ y, B[k]? = some y := ⟨_, List.getElem?_eq_getElem hB⟩
              obtain ⟨g2, off2, _, e2, hc2⟩ := (HB.out.below HBE.out).cell k y hy
              cases e2
              by_cases hA : i < A.length
              · have hAz : (i : Int) < (A.length : Int) := by omega
                obtain ⟨x, hx⟩ : ∃ x, A[i]? = some x := ⟨_, List.getElem?_eq_getElem hA⟩
                obtain ⟨g1, off1, _, e1, hc1⟩ := (HA2.out.below HBE.out).cell i x hx
                cases e1
                by_cases hxy : x ≤ y
                · have HTT : Hid (T = true) := by rw [Hid, HT.out, hx, hy]; simp [hA, hxy]
                  clear hx hy
                  go_quiet (fail)
                  go_wp2_with fail
                  go_meet
                  exact ⟨by rw [HTT.out], below_draws (Below.refl _ _) _⟩
                · have HTT : Hid (T = false) := by rw [Hid, HT.out, hx, hy]; simp [hA, hxy]; omega
                  clear hx hy
                  go_quiet (fail)
                  go_wp2_with fail
                  go_meet
                  exact ⟨by rw [HTT.out], below_draws (Below.refl _ _) _⟩
              · have hAz : ¬ (i : Int) < (A.length : Int) := by omega
                have HTT : Hid (T = false) := by rw [Hid, HT.out]; simp [hA]; omega
                clear hy
                go_quiet (fail)
                go_wp2_with fail
                go_meet
                exact ⟨by rw [HTT.out], below_draws (Below.refl _ _) _⟩
            · have hBz : ((k : Int) == (B.length : Int)) = true := beq_iff_eq.2 (by omega)
              have HTT : Hid (T = true) := by rw [Hid, HT.out]; simp; omega
              go_quiet (fail)
              go_wp2_with fail
              go_meet
              exact ⟨by rw [HTT.out], below_draws (Below.refl _ _) _⟩
          case rest =>
            obtain ⟨rfl, hbc⟩ := hcut
            obtain ⟨wd, rfl⟩ : ∃ wd, wd = wc := ⟨_, rfl⟩
            have HBC : Hid (Below wr.heap.size wr wd) := hbc
            have HBD : Hid (Below w2.heap.size w2 wd) := HBE.out.trans (hbc.mono hsr)
            have hsd : w2.heap.size ≤ wd.heap.size := HBD.out.size
            clear hbc
            cases T with
            | true =>
              have hA : i < A.length := by
                rcases Nat.lt_or_ge i A.length with h | h
                · exact h
                · have h1 := HT.out
                  simp only [show ¬ i < A.length from by omega, decide_false, Bool.false_and, Bool.or_false] at h1
                  have h5 := of_decide_eq_true h1.symm
                  omega
              have hAz : (i : Int) < (A.length : Int) := by omega
              obtain ⟨x, hx⟩ : ∃ x, A[i]? = some x := ⟨_, List.getElem?_eq_getElem hA⟩
              obtain ⟨g1, off1, _, e1, hc1⟩ := (HA2.out.below HBD.out).cell i x hx
              cases e1
              have HM : Hid (MixI A B (C ++ [x]) (i + 1) k) := HMIX.out.left RA.out hx (by
                rcases Nat.lt_or_ge k B.length with h | h
                · obtain ⟨y, hy⟩ : ∃ y, B[k]? = some y := ⟨_, List.getElem?_eq_getElem h⟩
                  have h1 := HT.out
                  rw [hx, hy] at h1
                  simp only [show ¬ k = B.length from by omega, decide_false, Bool.false_or, Option.getD_some] at h1
                  have h5 : x ≤ y := by have := (Bool.and_eq_true _ _ ▸ h1.symm).2; exact of_decide_eq_true this
                  exact fun z hz => Int.le_trans h5 (rise_least RB.out hy z hz)
                · exact drop_noneI h)
              clear hx
              obtain ⟨wA, hwA⟩ : ∃ wA, wA = wd.alloc (.cells #[.int .i64 x] 3) := ⟨_, rfl⟩
              have HWA : Hid (wd.alloc (.cells #[.int .i64 x] 3) = wA) := hwA.symm
              have HBA : Hid (Below wd.heap.size wd wA) := by rw [hwA]; exact below_new _ _
              have HNW : Hid (∀ (j : Nat) (u : Value), [Value.int .i64 x][j]? = some u → wA.cell? ((⟨wd.heap.size, 0, none⟩ : Addr).add j) = some u) := by rw [hwA]; exact one_src wd _ _
              have HOA : Hid (wA.ownsRow w2.heap.size 3 1 (.slice a5 C.length c5) C.length (C.map encI)) := ((HOWN.out.here HBC.out).here HBA.out).own
              clear hwA
              have hcl : C.length + 1 ≤ L.length := by have := HLC.out; omega
              go_wp2_with (at_builtin; go_loud (
                rw [HWA.out]
                refine wpList_append_lies _ rfl _ _ 23 rfl w2.heap.size 3 i3 (.int .i64 0) 1 8 Try.underlying23 hi3 hz30 hz31 hz32 rfl (by decide) (.slice a5 C.length c5) C.length (C.map encI) rfl HOA.out ⟨wd.heap.size, 0, none⟩ 1 1 [.int .i64 x] rfl rfl HNW.out (by intro u hu; simp at hu; subst hu; rfl) (by decide) (by unfold maxLen; omega) (by omega) (Nat.le_trans hsd HBA.out.size) _ rfl ?_
                intro g6 c6 w6 ho6 hg6 _ _
                have HN6 : Hid (NewInts w2.heap.size w6 (.slice (some ⟨g6, 0, none⟩) (C.length + 1) c6) (C ++ [x])) := ⟨by rw [List.length_append, List.map_append]; exact ho6⟩
                have HB6 : Hid (Below w2.heap.size w2 w6) := HBD.out.trans ((HBA.out.mono hsd).trans ((Below.refl _ _).grown hg6 (Nat.le_trans hsd HBA.out.size) (fun q e => (own_type HOA.out q e).2.1)))
                clear ho6 hg6))
              first
                | exact ⟨⟨i + 1, k, C ++ [x], by go_num, rfl, by omega, by omega, by have := HLC.out; simp; omega, HN6.out, HM.out, HB6.out⟩, by simp [intOf]; omega⟩
                | (exfalso; omega)
            | false =>
              have hB : k < B.length := by
                rcases Nat.lt_or_ge k B.length with h | h
                · exact h
                · have h1 := HT.out
                  rw [decide_eq_true (show k = B.length from by omega)] at h1
                  simp at h1
              have hBz : (k : Int) < (B.length : Int) := by omega
              obtain ⟨x, hx⟩ : ∃ x, B[k]? = some x := ⟨_, List.getElem?_eq_getElem hB⟩
              obtain ⟨g1, off1, _, e1, hc1⟩ := (HB.out.below HBD.out).cell k x hx
              cases e1
              have HM : Hid (MixI A B (C ++ [x]) i (k + 1)) := HMIX.out.right RB.out hx (by
                rcases Nat.lt_or_ge i A.length with h | h
                · obtain ⟨y, hy⟩ : ∃ y, A[i]? = some y := ⟨_, List.getElem?_eq_getElem h⟩
                  have h1 := HT.out
                  rw [hx, hy, decide_eq_true h] at h1
                  simp only [show ¬ k = B.length from by omega, decide_false, Bool.false_or, Bool.true_and, Option.getD_some] at h1
                  have h5 : ¬ y ≤ x := of_decide_eq_false h1.symm
                  exact fun z hz => Int.le_trans (by omega) (rise_least RA.out hy z hz)
                · exact drop_noneI h)
              clear hx
              obtain ⟨wA, hwA⟩ : ∃ wA, wA = wd.alloc (.cells #[.int .i64 x] 3) := ⟨_, rfl⟩
              have HWA : Hid (wd.alloc (.cells #[.int .i64 x] 3) = wA) := hwA.symm
              have HBA : Hid (Below wd.heap.size wd wA) := by rw [hwA]; exact below_new _ _
              have HNW : Hid (∀ (j : Nat) (u : Value), [Value.int .i64 x][j]? = some u → wA.cell? ((⟨wd.heap.size, 0, none⟩ : Addr).add j) = some u) := by rw [hwA]; exact one_src wd _ _
              have HOA : Hid (wA.ownsRow w2.heap.size 3 1 (.slice a5 C.length c5) C.length (C.map encI)) := ((HOWN.out.here HBC.out).here HBA.out).own
              clear hwA
              have hcl : C.length + 1 ≤ L.length := by have := HLC.out; omega
              go_wp2_with (at_builtin; go_loud (
                rw [HWA.out]
                refine wpList_append_lies _ rfl _ _ 23 rfl w2.heap.size 3 i3 (.int .i64 0) 1 8 Try.underlying23 hi3 hz30 hz31 hz32 rfl (by decide) (.slice a5 C.length c5) C.length (C.map encI) rfl HOA.out ⟨wd.heap.size, 0, none⟩ 1 1 [.int .i64 x] rfl rfl HNW.out (by intro u hu; simp at hu; subst hu; rfl) (by decide) (by unfold maxLen; omega) (by omega) (Nat.le_trans hsd HBA.out.size) _ rfl ?_
                intro g6 c6 w6 ho6 hg6 _ _
                have HN6 : Hid (NewInts w2.heap.size w6 (.slice (some ⟨g6, 0, none⟩) (C.length + 1) c6) (C ++ [x])) := ⟨by rw [List.length_append, List.map_append]; exact ho6⟩
                have HB6 : Hid (Below w2.heap.size w2 w6) := HBD.out.trans ((HBA.out.mono hsd).trans ((Below.refl _ _).grown hg6 (Nat.le_trans hsd HBA.out.size) (fun q e => (own_type HOA.out q e).2.1)))
                clear ho6 hg6))
              first
                | exact ⟨⟨i, k + 1, C ++ [x], rfl, by go_num, by omega, by omega, by have := HLC.out; simp; omega, HN6.out, HM.out, HB6.out⟩, by simp [intOf]; omega⟩
                | (exfalso; omega)
      · have h1 : ¬ (i : Int) < (A.length : Int) := by omega
        have h3 : ¬ (k : Int) < (B.length : Int) := by omega
        go_wp2
        go_ret
        have hiA' : i = A.length := by omega
        have hkB' : k = B.length := by omega
        have hperm : C.Perm L := by
          have := HMIX.out.perm
          rw [hiA', hkB', List.take_length, List.take_length] at this
          refine this.trans ((PA.out.append PB.out).trans ?_)
          rw [List.take_append_drop]
        refine ⟨_, rfl, C, HOWN.out.ints (by rw [hperm.length_eq]; exact hs) (fun p hp => HL.out.fits p (hperm.mem_iff.1 hp)), hperm, HMIX.out.rise, HB2.out.trans (HBE.out.mono HB2.out.size)⟩
theorem refSorted_any : ∀ (n : Nat) (w : World) (v : Value) (L : List Int), L.length = n → IntsAt w.heap.size w v L → Calls Try.prog 64 #[v] w fun e w' => ∃ v' N, e = .returned v' ∧ IntsAt w'.heap.size w' v' N ∧ N.Perm L ∧ N.Pairwise (· ≤ ·) ∧ Below w.heap.size w w' := by
  intro n
  induction n using Nat.strongRecOn with
  | ind n ih =>
    intro w v L hn h
    exact refSorted_step h fun w v M hM hl => ih M.length (by omega) w v M rfl hl
end Go.Proofs.Ytaehchijeinloaa
