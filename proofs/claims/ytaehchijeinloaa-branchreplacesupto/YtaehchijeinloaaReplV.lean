/- The document's Replace, whole; a variable with Kids of new memory. -/
import Derived.Test.YtaehchijeinloaaRefReplG
namespace Go.Proofs.Ytaehchijeinloaa
open Go.RowKit

theorem refReplace_any {w : World} {v u : Value} {ps qs : List Int} {L M : List Kc} {i j : Int} (h : KidsAt w.heap.size w v ps L) (hu : KidsAt w.heap.size w u qs M) (hl : ps.length ≤ 2147483647) (hm : qs.length ≤ 2147483647) :
    Calls Try.prog 24 #[v, .int .i64 i, .int .i64 j, u] w fun e w' => ∃ v', e = .returned (.tuple #[v', .int .i64 (replE (kd ps L) i j (kd qs M) : Nat)]) ∧ NewKids w.heap.size w' v' (replD (kd ps L) i j (kd qs M)) ∧ Below w.heap.size w w' := by
  by_cases hc : (kd ps L).fit = true ∧ (kd qs M).fit = true ∧ 0 ≤ i ∧ i < j ∧ j ≤ (kd ps L).ps.length
  · have e0 : replE (kd ps L) i j (kd qs M) = 0 := by unfold replE; rw [if_pos hc]
    obtain ⟨h1, h2, h3, h4, h5⟩ := hc
    obtain ⟨ni, rfl⟩ := Int.eq_ofNat_of_zero_le h3
    obtain ⟨nj, rfl⟩ := Int.eq_ofNat_of_zero_le (show 0 ≤ j by omega)
    have e1 : replD (kd ps L) ni nj (kd qs M) = replK (kd ps L) ni nj (kd qs M) := by unfold replD; rw [if_pos e0]; rfl
    rw [e0, e1]
    have h6 : (kd ps L).ps.length = ps.length := rfl
    exact refReplace_good h hu hl hm h1 h2 (by omega) (by omega)
  · exact refReplace_bad h hu (by unfold replE; rw [if_neg hc])
theorem replD_facts (ps qs : List Int) (L M : List Kc) (i j : Int) : (replD (kd ps L) i j (kd qs M)).ps.length ≤ ps.length + qs.length ∧ (∀ p ∈ (replD (kd ps L) i j (kd qs M)).ps, p ∈ ps ∨ p ∈ qs) ∧ (replD (kd ps L) i j (kd qs M)).ks.length ≤ L.length + M.length ∧ ∀ k ∈ (replD (kd ps L) i j (kd qs M)).ks, k ∈ keysOf L ∨ k ∈ keysOf M := by
  unfold replD
  by_cases hc : replE (kd ps L) i j (kd qs M) = 0
  · rw [if_pos hc]
    have hcc : (kd ps L).fit = true ∧ (kd qs M).fit = true ∧ 0 ≤ i ∧ i < j ∧ j ≤ (kd ps L).ps.length := by
      unfold replE at hc
      split at hc
      · assumption
      · cases hc
    obtain ⟨h1, _, h3, h4, h5⟩ := hcc
    have h6 : (kd ps L).ps.length = ps.length := rfl
    have hl1 := (fit_iff.1 h1).2
    rw [show (kd ps L).ks.length = L.length from keysOf_length L] at hl1
    simp only [replK]
    refine ⟨?_, fun p hp => ?_, ?_, fun k hk => ?_⟩
    · simp only [kd, List.length_append, List.length_take, List.length_drop]
      omega
    · rcases List.mem_append.1 hp with hp | hp
      · rcases List.mem_append.1 hp with hp | hp
        · exact .inl (List.mem_of_mem_take hp)
        · exact .inr hp
      · exact .inl (List.mem_of_mem_drop hp)
    · simp only [kd, List.length_append, List.length_take, List.length_drop, keysOf_length]
      omega
    · rcases List.mem_append.1 hk with hk | hk
      · rcases List.mem_append.1 hk with hk | hk
        · exact .inl (List.mem_of_mem_take hk)
        · exact .inr hk
      · exact .inl (List.mem_of_mem_drop hk)
  · rw [if_neg hc]
    exact ⟨by simp, fun p hp => by simp at hp, by simp, fun k hk => by simp at hk⟩

/-- A variable with Kids of new memory. -/
structure KVar (W wx : World) (sv : Value) (d : Kd) : Prop where
  is : ∃ (g : Nat) (a1 a2 : Option Addr) (c1 c2 : Nat) (F : List Kc), sv = .pointer (some ⟨g, 0, none⟩) ∧ W.heap.size ≤ g ∧ KBox wx g (.slice a1 d.ps.length c1) (.slice a2 F.length c2) ∧ NewInts W.heap.size wx (.slice a1 d.ps.length c1) d.ps ∧ NewKeys W.heap.size wx (.slice a2 F.length c2) F ∧ keysOf F = d.ks ∧ Below W.heap.size W wx
theorem KVar.drew {W wx : World} {sv : Value} {d : Kd} (h : KVar W wx sv d) : KVar W wx.drew sv d := by
  obtain ⟨g, a1, a2, c1, c2, F, h1, h2, h3, h4, h5, h6, h7⟩ := h.is
  exact ⟨g, a1, a2, c1, c2, F, h1, h2, h3.here (Below.refl _ _).drew, h4.here (Below.refl _ _).drew, h5.here (Below.refl _ _).drew, h6, h7.drew⟩
theorem kvar_c {W w4 : World} {d : Kd} {a1 a2 : Option Addr} {c1 c2 : Nat} {F : List Kc} (hb : Below W.heap.size W w4) (h1 : NewInts W.heap.size w4 (.slice a1 d.ps.length c1) d.ps) (h2 : NewKeys W.heap.size w4 (.slice a2 F.length c2) F) (h3 : keysOf F = d.ks) :
    KVar W (w4.alloc (.cells #[.slice a1 d.ps.length c1, .slice a2 F.length c2] 26)) (.pointer (some ⟨w4.heap.size, 0, none⟩)) d :=
  ⟨_, a1, a2, c1, c2, F, rfl, hb.size, KBox.new w4 _ _, h1.here (below_new _ _), h2.here (below_new _ _), h3, hb.trans ((below_new w4 _).mono hb.size)⟩
theorem kvar_a {W w4 : World} {d : Kd} {a1 a2 : Option Addr} {c1 c2 : Nat} {F : List Kc} {Z : Obj} (hZ : Z = .cells #[.slice none 0 0, .slice none 0 0] 26) (hb : Below (W.alloc Z).heap.size (W.alloc Z) w4) (h1 : NewInts (W.alloc Z).heap.size w4 (.slice a1 d.ps.length c1) d.ps) (h2 : NewKeys (W.alloc Z).heap.size w4 (.slice a2 F.length c2) F) (h3 : keysOf F = d.ks) :
    KVar W ((w4.setCell ⟨W.heap.size, 0, none⟩ (.slice a1 d.ps.length c1)).setCell ⟨W.heap.size, 1, none⟩ (.slice a2 F.length c2)) (.pointer (some ⟨W.heap.size, 0, none⟩)) d := by
  subst hZ
  have hx : KBox w4 W.heap.size (.slice none 0 0) (.slice none 0 0) := (KBox.new W _ _).here hb
  have hk := keep_two hx (Nat.le_refl _) (.slice a1 d.ps.length c1) (.slice a2 F.length c2)
  have hl : Below W.heap.size W w4 := (below_new W _).trans (hb.mono (by simp))
  exact ⟨_, a1, a2, c1, c2, F, rfl, Nat.le_refl _, hx.put _ _, (h1.mono (by simp)).keep hk (by decide), (h2.mono (by simp)).keep hk (by decide) (by decide), h3, hl.trans hk.low⟩
end Go.Proofs.Ytaehchijeinloaa
