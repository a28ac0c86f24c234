/- SameRuns; the law's runs and bytes. -/
import Derived.Test.YtlokplnapaghhaaDoorRuns
import Derived.Test.YtlokplnapaghhaaDoorStr
import Derived.Deep.AppendLies
namespace Go.Proofs.YtlokplnapaghhaaDoor
open Go.RowKit

/-- Runs that lie there. -/
structure RunsIn (w : World) (v : Value) (L : List (Nat × Nat)) : Prop where
  is : ∃ a c, v = .slice a L.length c ∧ ∀ (j : Nat) u, (flatR L)[j]? = some u → ∃ g, a = some ⟨g, 0, none⟩ ∧ g < w.heap.size ∧ w.cell? ⟨g, j, none⟩ = some u
theorem NewR.in {base : Nat} {w : World} {v : Value} {L : List (Nat × Nat)} (h : NewR base w v L) : RunsIn w v L := by
  rcases own_row h with ⟨rfl, h0⟩ | ⟨g, c, rfl, _, hg, hc⟩
  · refine ⟨none, 0, by rw [h0], fun j u hj => ?_⟩
    have := (List.getElem?_eq_some_iff.1 hj).1
    rw [flatR_length] at this
    omega
  · exact ⟨_, c, rfl, fun j u hj => ⟨g, rfl, hg, hc j u hj⟩⟩
theorem RunsIn.here {w w' : World} {v : Value} {L : List (Nat × Nat)} (h : RunsIn w v L) (hb : Below w.heap.size w w') : RunsIn w' v L := by
  obtain ⟨a, c, e, hc⟩ := h.is
  exact ⟨a, c, e, fun j u hj => by
    obtain ⟨g, e1, hg, hx⟩ := hc j u hj
    exact ⟨g, e1, Nat.lt_of_lt_of_le hg hb.size, by rw [hb.cell hg]; exact hx⟩⟩
theorem run_eq (r q : Nat × Nat) : decide (r = q) = (decide (r.1 = q.1) && decide (r.2 = q.2)) := by
  obtain ⟨a, b⟩ := r
  obtain ⟨c, d⟩ := q
  simp
set_option maxHeartbeats 1600000 in
theorem sameRuns_any (w : World) (v u : Value) (L M : List (Nat × Nat)) (h : RunsIn w v L) (hu : RunsIn w u M) (hl : L.length ≤ 1000000) :
    Calls Tryd.prog 37 #[v, u] w fun e w' => e = .returned (.bool (decide (L = M))) ∧ ∃ q, w' = w.drewN q := by
  obtain ⟨a, c, rfl, hc⟩ := h.is
  obtain ⟨b, d, rfl, hd⟩ := hu.is
  have HC : Hid _ := hc
  have HD : Hid _ := hd
  clear h hu hc hd
  by_cases hlen : L.length = M.length
  · have hlb : ((L.length : Int) != (M.length : Int)) = false := by rw [hlen]; simp
    have HLE : Hid (L.length = M.length) := hlen
    clear hlen
    go_enter Tryd.func37, Tryd.ntmps37
    go_wp2
    go_loopw [5] (fun i wx => ∃ k : Nat, k ≤ L.length ∧ i = .int .i64 k ∧ L.take k = M.take k ∧ ∃ q, wx = w.drewN q) (fun i _ => L.length - (intOf i).toNat)
    case atStart => exact ⟨0, by omega, rfl, by simp, 0, rfl⟩
    case round =>
      obtain ⟨k, hk, rfl, ht, q, rfl⟩ := hrel
      have HT : Hid _ := ht
      clear ht
      have hle := HLE.out
      by_cases hlt : k < L.length
      · have hltz : (k : Int) < (L.length : Int) := by omega
        have hltm : (k : Int) < (M.length : Int) := by omega
        obtain ⟨r, hr⟩ : ∃ r, L[k]? = some r := ⟨L[k]'hlt, List.getElem?_eq_getElem hlt⟩
        obtain ⟨p, hp⟩ : ∃ p, M[k]? = some p := ⟨M[k]'(by omega), List.getElem?_eq_getElem (by omega)⟩
        obtain ⟨f0, f1⟩ := flatR_at hr
        obtain ⟨e0, e1⟩ := flatR_at hp
        obtain ⟨g, rfl, _, x0⟩ := HC.out _ _ f0
        obtain ⟨g', e, _, x1⟩ := HC.out _ _ f1
        cases e
        obtain ⟨g', rfl, _, y0⟩ := HD.out _ _ e0
        obtain ⟨g'', e, _, y1⟩ := HD.out _ _ e1
        cases e
        have HRR : Hid (L[k]? = some r) := hr
        have HPP : Hid (M[k]? = some p) := hp
        clear f0 f1 e0 e1 hr hp hle
        by_cases heq : r = p
        · subst heq
          go_wp2
          go_region
          all_goals
            go_wp2
            exact ⟨⟨k + 1, by omega, by go_num, by rw [List.take_add_one, List.take_add_one, HT.out, HRR.out, HPP.out], q + 1, rfl⟩, by simp [intOf]; omega⟩
        · have HE : Hid (¬ L = M) := fun e => heq (by have h1 := HRR.out; rw [e, HPP.out] at h1; exact (Option.some.inj h1).symm)
          by_cases e1 : r.1 = p.1
          · have e2 : ¬ r.2 = p.2 := fun e2 => heq (Prod.ext e1 e2)
            have hb2 : ((r.2 : Int) == (p.2 : Int)) = false := by rw [beq_eq_false_iff_ne]; omega
            have hb2n : ((r.2 : Int) != (p.2 : Int)) = true := by rw [bne_iff_ne]; omega
            rw [e1] at x0
            clear heq e1 e2
            go_wp2
            go_region
            all_goals
              go_wp2
              go_ret
              exact ⟨by rw [decide_eq_false HE.out]; rfl, q + 1, rfl⟩
          · have hb1 : ((r.1 : Int) == (p.1 : Int)) = false := by rw [beq_eq_false_iff_ne]; omega
            have hb1n : ((r.1 : Int) != (p.1 : Int)) = true := by rw [bne_iff_ne]; omega
            clear heq e1
            go_wp2
            go_region
            all_goals
              go_wp2
              go_ret
              exact ⟨by rw [decide_eq_false HE.out]; rfl, q + 1, rfl⟩
      · have hltz : ¬ (k : Int) < (L.length : Int) := by omega
        have HE : Hid (L = M) := by
          have := HT.out
          rw [List.take_of_length_le (by omega), List.take_of_length_le (by omega)] at this
          exact this
        clear hle
        go_wp2
        go_ret
        exact ⟨by rw [decide_eq_true HE.out]; rfl, q, rfl⟩
  · have hlb : ((L.length : Int) != (M.length : Int)) = true := by rw [bne_iff_ne]; omega
    have HE : Hid (¬ L = M) := fun e => hlen (by rw [e])
    clear hlen
    go_enter Tryd.func37, Tryd.ntmps37
    go_wp2
    go_ret
    exact ⟨by rw [decide_eq_false HE.out]; rfl, 0, rfl⟩
/-- A row that is written over and made longer by its owner. -/
structure Owned (w0 : World) (v0 : Value) (T : TypeId) (k : Nat) (wx : World) (u : Value) (n : Nat) : Prop where
  own : ∃ xs, wx.ownsRow 0 T k u n xs
  lie : u.ownBlock = v0.ownBlock ∨ ∀ g, u.ownBlock = some g → w0.heap.size ≤ g
  kept : Kept (fun i => v0.ownBlock = some i) w0 wx
theorem Owned.set {w0 : World} {v0 : Value} {T : TypeId} {k : Nat} {wx : World} {g n c : Nat} (h : Owned w0 v0 T k wx (.slice (some ⟨g, 0, none⟩) n c) n) (i : Nat) (x : Value) : Owned w0 v0 T k (wx.setCell ⟨g, i, none⟩ x) (.slice (some ⟨g, 0, none⟩) n c) n := by
  obtain ⟨⟨xs, hl, hr⟩, ha, hk⟩ := h
  refine ⟨?_, ha, ?_⟩
  · rcases hr with ⟨e, _⟩ | ⟨g', cap, cur, e, hb, hg, hc, hm, hs, ht⟩
    · cases e
    · cases e
      refine ⟨(cur.setIfInBounds i x).toList.take (n * k), ?_, .inr ⟨g, c, _, rfl, Nat.zero_le _, heap_set_same _ hg, hc, hm, by simpa using hs, rfl⟩⟩
      rw [List.length_take]
      simp only [Array.length_toList, Array.size_setIfInBounds, hs]
      exact Nat.min_eq_left (Nat.mul_le_mul_right _ hc)
  · refine hk.trans (setCell_kept _) (fun j hj e => ?_)
    rcases ha with h1 | h1
    · rw [← h1, e]; rfl
    · have := h1 g rfl
      omega
theorem Owned.lies {w0 : World} {v0 : Value} {T : TypeId} {k : Nat} {wx wa w2 : World} {u : Value} {n m g cap : Nat} {xs ys : List Value} (h : Owned w0 v0 T k wx u n) (hb : Below wx.heap.size wx wa) (h2 : w2.ownsRow 0 T k (.slice (some ⟨g, 0, none⟩) m cap) m (xs ++ ys)) (hg : wa.grownBy w2 u.ownBlock) (hl : u.ownBlock = some g ∨ g = wa.heap.size) : Owned w0 v0 T k w2 (.slice (some ⟨g, 0, none⟩) m cap) m := by
  have hsz := h.kept.size
  have hsz2 := hb.size
  refine ⟨⟨_, h2⟩, ?_, ?_⟩
  · rcases hl with hl | hl
    · rcases h.lie with h1 | h1
      · left; rw [← h1, hl]; rfl
      · right; intro g' e; cases e; exact h1 g hl
    · right; intro g' e; cases e; show w0.heap.size ≤ g; omega
  · have k1 : Kept (fun i => u.ownBlock = some i) wa w2 := Kept.of_grown hg (fun k e => e)
    refine (h.kept.trans (Kept.of_below hb (S := fun _ => False)) (fun _ _ x => x.elim)).trans k1 (fun j hj e => ?_)
    rcases h.lie with h1 | h1
    · rw [← h1]; exact e
    · have := h1 j e; omega
end Go.Proofs.YtlokplnapaghhaaDoor
