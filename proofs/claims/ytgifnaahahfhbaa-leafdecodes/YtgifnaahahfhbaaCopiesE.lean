/- The law's copies: entries in memory of their own. -/
import Derived.Test.YtgifnaahahfhbaaRefCut
namespace Go.Proofs.Ytgifnaahahfhbaa
open Go.RowKit

/-- Entries put behind entries of new memory, as a step of a region that draws its order. -/
theorem step_append_ents {w : World} {ops : Array Oper} {o : Oper} {a : Act} {K : Act → World → Prop} {Q : Exit → Act → World → Prop} {E : Prop} (hgd : o.guard = none) (s x : Operand)
    (ho : o.op = .call { callee := .builtin .append, args := #[s, x], argTypes := #[25, 25] }) (base : Nat)
    (v u : Value) (F M : List It) (hs : a.eval s = v) (hv : w.ownsRow base 47 2 v F.length (flat F)) (hx : a.eval x = u) (hu : ListAt w.heap.size w u M) (hM : M ≠ [])
    (hlen : (F.length + M.length) * 48 ≤ 140737488355328) (hbase : base ≤ w.heap.size)
    (h : ∀ v' w', w'.ownsRow base 47 2 v' (F ++ M).length (flat (F ++ M)) → Keep 47 base w w' → K (a.put o.dst v') w') :
    if Region.wanted o (yielded ops a.tmps) = true then Oper.wp Try.prog o a w K Q else E := by
  have hw : Region.wanted o (yielded ops a.tmps) = true := by simp [Region.wanted, hgd]
  rw [if_pos hw]
  obtain ⟨i0, hi, hz0, hz1, hz2⟩ := infoE'
  have hone := flat_one hu.ok
  obtain ⟨⟨ao, c, rfl, hc, hn, hb⟩, hl, hok⟩ := hu
  cases ao with
  | none =>
    exfalso
    cases M with
    | nil => exact hM rfl
    | cons b r => obtain ⟨_, _, e, _⟩ := hb 0 b.v1 rfl; cases e
  | some ad =>
    refine wp_append_own w s x 25 ho base 47 i0 _ 2 48 Try.underlying25 hi hz0 hz1 hz2 rfl (by decide) _ _ _ hs hv ad M.length c (flat M) hx (flat_length M) ?_ hone (by unfold maxLen; omega) hlen hbase ?_
    · intro j u hj
      obtain ⟨g', off, e1, _, hc⟩ := hb j u hj
      cases e1
      rw [add_at]
      exact hc
    · intro v' w' hown hgr _
      refine h v' w' ?_ (Keep.grownE hv hgr hbase)
      rw [List.length_append, flat_append]
      exact hown

set_option maxHeartbeats 1600000 in
set_option maxRecDepth 100000 in
theorem copies_any {w : World} {v : Value} {L : List It} (hL : ListAt w.heap.size w v L) (hn : L.length ≤ 4294967296) :
    Calls Try.prog 36 #[v] w fun e w' => ∃ v' F, e = .returned v' ∧ F.map It.e = L.map It.e ∧ OutList w.heap.size w' v' F ∧ Below w.heap.size w w' := by
  have hsh := hL.short
  obtain ⟨a, c, rfl⟩ := hL.form
  have HL : Hid (ListAt w.heap.size w (.slice a L.length c) L) := hL
  clear hL
  go_enter Try.func36, Try.ntmps36
  go_wp2_with fail
  go_loopw [3, 4] (fun vl i wx => ∃ (k : Nat) (F : List It), k ≤ L.length ∧ i = .int .i64 k ∧ F.map It.e = (L.map It.e).take k ∧ OutList w.heap.size wx vl F ∧ Below w.heap.size w wx) (fun _ i _ => L.length - (intOf i).toNat)
  case atStart => exact ⟨0, [], by omega, rfl, rfl, OutList.nil _ _, Below.refl _ _⟩
  case round =>
    obtain ⟨k, F, hk, rfl, hFe, hF, hbw⟩ := hrel
    have HFE : Hid (F.map It.e = (L.map It.e).take k) := hFe
    have hfl : F.length ≤ k := by have := congrArg List.length hFe; rw [List.length_map, List.length_take, List.length_map] at this; omega
    obtain ⟨al, nl, cl, evl⟩ := hF.shape
    subst evl
    have HF : Hid (OutList w.heap.size wr (.slice al nl cl) F) := hF
    have HBW : Hid (Below w.heap.size w wr) := hbw
    have hwsz := hbw.size
    clear hFe hF hbw
    by_cases hlt : k < L.length
    · have hz : (k : Int) < (L.length : Int) := by omega
      obtain ⟨e, he⟩ : ∃ e, L[k]? = some e := ⟨_, List.getElem?_eq_getElem hlt⟩
      have hL := HL.out.here HBW.out
      obtain ⟨g, off, c', e1, m0, m1⟩ := hL.cells k e he
      cases e1
      have HE : Hid (L[k]? = some e) := he
      have HEO : Hid (It.Ok wr.heap.size wr e) := hL.ok e (List.mem_of_getElem? he)
      obtain ⟨b1, d1, f1⟩ := HEO.out.k.form
      obtain ⟨b2, d2, f2⟩ := HEO.out.v.form
      rw [f1] at m0
      rw [f2] at m1
      have HK1 : Hid (KeyAt wr (.slice b1 e.e.k.length d1) e.e.k) := by rw [← f1]; exact HEO.out.k.at (Nat.le_refl _)
      have HK2 : Hid (KeyAt wr (.slice b2 e.e.v.length d2) e.e.v) := by rw [← f2]; exact HEO.out.v.at (Nat.le_refl _)
      have hs1 := HK1.out.short
      have hs2 := HK2.out.short
      have HC : Hid (∀ w', Below w.heap.size w w' → w'.cell? ⟨g, off + k * 2, none⟩ = some (.slice b1 e.e.k.length d1) ∧ w'.cell? ⟨g, off + k * 2 + 1, none⟩ = some (.slice b2 e.e.v.length d2)) := fun w' hb => by
        obtain ⟨g', off', c', e1, n0, n1⟩ := (HL.out.here hb).cells k e HE.out
        cases e1
        rw [f1] at n0
        rw [f2] at n1
        exact ⟨n0, n1⟩
      have HN : Hid (F.map It.e ++ [e.e] = (L.map It.e).take (k + 1)) := by rw [Hid, HFE.out, List.take_add_one, ents_get he]; rfl
      clear hL he f1 f2
      go_wp2_with fail
      go_region_held_law (fun W' => W'.cell? ⟨g, off + k * 2, none⟩ = some (.slice b1 e.e.k.length d1) ∧ W'.cell? ⟨g, off + k * 2 + 1, none⟩ = some (.slice b2 e.e.v.length d2)) (first | ((refine ⟨?_, ?_⟩) <;> with_reducible assumption) | (go_keep; done))
        (first
          | (refine step_append_key (by rfl) _ _ (by rfl) wr.heap.size _ (.slice b1 e.e.k.length d1) [] e.e.k (by rfl) (by first | exact newE (row_e1 wr _) (Nat.le_refl _) | exact newE (row_e2 wr _ _) (Nat.le_refl _) | exact newE (row_e3 wr _ _) (Nat.le_succ _)) (by rfl) (by first | exact HK1.out.here (below_e1 wr _) | exact HK1.out.here (below_e2 wr _ _)) (by simp; omega) (by simp <;> omega) ?_
             intro x1 w1 hx1 hk1 hg1
             have HV1 : Hid (NewKey wr.heap.size w1 x1 e.e.k) := hx1
             have HB1 : Hid (Below wr.heap.size wr w1) := by first | exact (below_e1 wr _).trans hk1.low | exact (below_e2 wr _ _).trans hk1.low
             obtain ⟨p1, l1, q1, e1⟩ := hx1.shape
             subst e1
             clear hx1 hk1
             obtain ⟨n0, n1⟩ := HC.out w1 (HBW.out.trans (HB1.out.mono hwsz)))
          | (refine step_append_key (by rfl) _ _ (by rfl) wr.heap.size _ (.slice b2 e.e.v.length d2) [] e.e.v (by rfl) (by first
                | exact newE (heap_alloc_last w1 _) HB1.out.size
                | exact newE (by obtain ⟨_, _, _, _, hbl⟩ := hg1; first | exact (hbl _ (by simp <;> omega) (fun e => absurd (show wr.heap.size + 1 = wr.heap.size from Option.some.inj e) (by omega))).trans (row_e3 wr _ _) | exact (hbl _ (by simp <;> omega) (fun e => absurd (show wr.heap.size = wr.heap.size + 1 from Option.some.inj e) (by omega))).trans (row_e2 wr _ _)) (by first | exact Nat.le_refl _ | exact Nat.le_succ _)) (by rfl) (by first | exact HK2.out.here HB1.out | exact HK2.out.here (HB1.out.alloc HB1.out.size _)) (by simp; omega) (by first | exact HB1.out.size | (simp; exact Nat.le_succ_of_le HB1.out.size)) ?_
             intro x2 w2 hx2 hk2 hg2
             have HV2 : Hid (KeyT w2 x2 e.e.v) := hx2.t
             have HV3 : Hid (KeyT w2 (.slice p1 l1 q1) e.e.k) := by first
               | exact (HV1.out.t.here (below_new _ _)).grown hg2 (heap_alloc_last w1 _)
               | exact HV1.out.t.grown hg2 (by obtain ⟨_, _, _, _, hbl⟩ := hg1; first | exact (hbl _ (by simp <;> omega) (fun e => absurd (show wr.heap.size + 1 = wr.heap.size from Option.some.inj e) (by omega))).trans (row_e3 wr _ _) | exact (hbl _ (by simp <;> omega) (fun e => absurd (show wr.heap.size = wr.heap.size + 1 from Option.some.inj e) (by omega))).trans (row_e2 wr _ _))
             have HB2 : Hid (Below wr.heap.size wr w2) := by first | exact HB1.out.trans hk2.low | exact (HB1.out.alloc HB1.out.size _).trans hk2.low
             obtain ⟨p2, l2, q2, e2⟩ := hx2.shape
             subst e2
             have HY2 : Hid (NewPair w2 ⟨.slice p1 l1 q1, .slice p2 l2 q2, e.e⟩) := ⟨HV3.out, HV2.out⟩
             clear hx2 hk2 hg1 hg2
             obtain ⟨n0', n1'⟩ := HC.out w2 (HBW.out.trans (HB2.out.mono hwsz)))
          | (refine step_append_ents (by rfl) _ _ (by rfl) w.heap.size (.slice al nl cl) (.slice (some ⟨w2.heap.size, 0, none⟩) 1 1) F [⟨.slice p1 l1 q1, .slice p2 l2 q2, e.e⟩] (by rfl) (by exact ((HF.out.here HB2.out).here (below_new w2 _)).own) (by rfl) (by exact list_one w2 ⟨.slice p1 l1 q1, .slice p2 l2 q2, e.e⟩ HY2.out.ok) (by simp) (by simp; omega) (by have := HB2.out.size; simp; omega) ?_
             intro v4 w4 ho4 hk4
             have HF4 : Hid (OutList w.heap.size w4 v4 (F ++ [⟨.slice p1 l1 q1, .slice p2 l2 q2, e.e⟩])) := ((HF.out.here HB2.out).here (below_new w2 _)).push (HY2.out.here (below_new w2 _)) ho4 hk4
             have HB4 : Hid (Below w.heap.size w w4) := (HBW.out.trans (HB2.out.mono hwsz)).trans (((below_new w2 _).mono (Nat.le_trans hwsz HB2.out.size)).trans hk4.low)
             obtain ⟨n0'', n1''⟩ := HC.out w4 HB4.out
             clear ho4 hk4))
      all_goals
        go_wp2
        exact ⟨⟨k + 1, F ++ [⟨.slice p1 l1 q1, .slice p2 l2 q2, e.e⟩], by omega, by go_num, by rw [List.map_append, ← HN.out]; rfl, HF4.out, HB4.out⟩, by simp [intOf]; omega⟩
    · have hz : ¬ (k : Int) < (L.length : Int) := by omega
      have HE : Hid ((L.map It.e).take k = L.map It.e) := List.take_of_length_le (by simp; omega)
      go_wp2
      go_ret
      exact ⟨_, rfl, F, by rw [HFE.out, HE.out], HF.out, HBW.out⟩
end Go.Proofs.Ytgifnaahahfhbaa
