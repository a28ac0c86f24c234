/- hang and unhang: what they do to the ring. -/
import Derived.Test.YteajgodpdfcioaaHangW
namespace Go.Proofs.Yteajgodpdfcioaa
open Go.RowKit Go.Maps

theorem ptr_otherN {w : World} {a b : Nat} {ca cb : Array Value} {ta tb : TypeId} (q : Nat) (ha : w.heap[a]? = some (.cells ca ta (0, 0))) (hb : w.heap[b]? = some (.cells cb tb (0, 0))) (h : a ≠ b) : (binOp .eql 65 (.pointer (some ⟨a, 0, none⟩)) (.pointer (some ⟨b, 0, none⟩))).run Try.prog (w.drewN q) = .ok (.bool false) (w.drewN q) :=
  ptr_other (w := w.drewN q) ha hb h
theorem RingAt.pl {w : World} {e : Nat} {G : List Pl} {nx pv : Nat → Nat} (h : RingAt w e G nx pv) {k : Nat} (hk : k ∈ e :: G.map Pl.b) : ∃ q, q ∈ endP e :: G ∧ q.b = k ∧ w.heap[k]? = some (.cells (plc q (pv k) (nx k)) 68 (0, 0)) := by
  have : k ∈ (endP e :: G).map Pl.b := by simpa [endP] using hk
  obtain ⟨p, hp, rfl⟩ := List.mem_map.1 this
  exact ⟨p, hp, rfl, h.mem p hp⟩
theorem unhang_any {w : World} {c : Nat} {h : Hd} {A B : List Pl} {p : Pl} {nx pv : Nat → Nat} (hh : HdAt w c h) (hr : RingAt w h.e (A ++ p :: B) nx pv) (hf : h.f ∈ h.e :: (A ++ p :: B).map Pl.b) :
    Calls Try.prog 50 #[ptr c, ptr p.b] w fun r w' => r = .returned (.tuple #[]) ∧ HdAt w' c { h with f := if h.f = p.b then fstB h.e (B.map Pl.b) else h.f } ∧ (∃ nx' pv', RingAt w' h.e (A ++ B) nx' pv') ∧
      (∃ a d, PlAt w' p a d) ∧ Kept (fun k => k = c ∨ k ∈ h.e :: (A ++ B).map Pl.b) w w' := by
  have hR : Ring nx pv h.e (A.map Pl.b ++ p.b :: B.map Pl.b) := by simpa using hr.ring
  obtain ⟨e1, e2⟩ := hR.at
  have hcap := hr.apart hh
  have hpm : p ∈ endP h.e :: (A ++ p :: B) := by simp
  have hpb : p.b ∈ h.e :: (A ++ p :: B).map Pl.b := by simp
  have hp0 := hr.mem p hpm
  have am := lstB_mem h.e (A.map Pl.b)
  have dm := fstB_mem h.e (B.map Pl.b)
  have hRo := hR.out
  have hnd : (h.e :: (A.map Pl.b ++ p.b :: B.map Pl.b)).Nodup := hR.nodup
  rw [e1, e2] at hp0
  generalize ha : lstB h.e (A.map Pl.b) = a at *
  generalize hd : fstB h.e (B.map Pl.b) = d at *
  have am1 : a ∈ h.e :: (A ++ p :: B).map Pl.b := by simp at am ⊢; grind
  have dm1 : d ∈ h.e :: (A ++ p :: B).map Pl.b := by simp at dm ⊢; grind
  have am2 : a ∈ h.e :: (A ++ B).map Pl.b := by simp at am ⊢; grind
  have dm2 : d ∈ h.e :: (A ++ B).map Pl.b := by simp at dm ⊢; grind
  have hpn : p.b ∉ h.e :: (A ++ B).map Pl.b := by
    have h1 : (h.e :: A.map Pl.b ++ p.b :: B.map Pl.b).Nodup := by simpa using hnd
    obtain ⟨_, d2, d3⟩ := List.nodup_append.1 h1
    intro hm
    simp only [List.map_append, List.mem_cons, List.mem_append] at hm
    rcases hm with hm | hm | hm
    · exact d3 h.e (by simp) p.b (by simp) hm.symm
    · exact d3 p.b (List.mem_cons_of_mem _ hm) p.b (by simp) rfl
    · exact (List.nodup_cons.1 d2).1 hm
  have hap : p.b ≠ a := fun e => hpn (e ▸ am2)
  have hdp : p.b ≠ d := fun e => hpn (e ▸ dm2)
  have hac : c ≠ a := fun e => hcap (e ▸ am1)
  have hdc : c ≠ d := fun e => hcap (e ▸ dm1)
  have hpc : p.b ≠ c := fun e => hcap (e ▸ hpb)
  obtain ⟨qa, _, _, ga⟩ := hr.pl am1
  obtain ⟨qd, _, _, gd⟩ := hr.pl dm1
  obtain ⟨qf, _, _, gf⟩ := hr.pl hf
  have key : ∀ (w1 : World) (f1 : Nat), HdAt w1 c { h with f := f1 } → (∀ k, k ≠ c → w1.heap[k]? = w.heap[k]?) → Kept (fun k => k = c) w w1 → ∀ w', w' = ((w1.setCell ⟨a, 5, none⟩ (ptr d)).setCell ⟨d, 4, none⟩ (ptr a)).drew →
      HdAt w' c { h with f := f1 } ∧ (∃ nx' pv', RingAt w' h.e (A ++ B) nx' pv') ∧ (∃ a d, PlAt w' p a d) ∧ Kept (fun k => k = c ∨ k ∈ h.e :: (A ++ B).map Pl.b) w w' := by
    rintro w1 f1 h1 h2 h3 w' rfl
    refine ⟨?_, ⟨_, _, ⟨?_, by simpa using hRo⟩⟩, ⟨a, d, ?_⟩, ?_⟩
    · show (((w1.setCell ⟨a, 5, none⟩ (ptr d)).setCell ⟨d, 4, none⟩ (ptr a))).heap[c]? = _
      rw [set_far _ hdc, set_far _ hac]
      exact h1
    · have m0 : ∀ q ∈ endP h.e :: (A ++ B), PlAt w1 q (pv q.b) (nx q.b) := fun q hq => by
        have hq1 : q ∈ endP h.e :: (A ++ p :: B) := by simp at hq ⊢; grind
        have hqb : q.b ∈ h.e :: (A ++ p :: B).map Pl.b := by
          rcases List.mem_cons.1 hq1 with rfl | hq1
          · simp [endP]
          · exact List.mem_cons_of_mem _ (List.mem_map_of_mem hq1)
        show w1.heap[q.b]? = _
        rw [h2 _ (fun e => hcap (e ▸ hqb))]
        exact hr.mem q hq1
      exact mem_pv (mem_nx m0 a d) d a
    · show (((w1.setCell ⟨a, 5, none⟩ (ptr d)).setCell ⟨d, 4, none⟩ (ptr a))).heap[p.b]? = _
      rw [set_far _ hdp, set_far _ hap, h2 _ hpc]
      exact hp0
    · refine Kept.drew ?_
      refine ((h3.mono (fun _ _ x => .inl x)).trans (setCell_kept _) ?_).trans (setCell_kept _) ?_
      · rintro k _ rfl; exact .inr am2
      · rintro k _ rfl; exact .inr dm2
  by_cases hfp : h.f = p.b
  · refine (unhang_yes w c p.b a d _ _ (by rw [row_cell hh, hfp.symm]; rfl) (row_frozen hh _) (by rw [row_cell hp0]; rfl) (by rw [row_cell hp0]; rfl) (by rw [row_cell ga]; rfl) (row_frozen ga _) (by rw [row_cell gd]; rfl) (row_frozen gd _)).mono ?_
    rintro r w' ⟨rfl, hw⟩
    rw [if_pos hfp]
    refine ⟨rfl, key _ d ?_ (fun k hk => set_far _ hk) (setCell_kept _) w' hw⟩
    exact (heap_set_same _ hh).trans (by simp [hdr])
  · refine (unhang_no w c p.b a d h.f _ _ (ptr_other gf hp0 hfp) (by rw [row_cell hh]; rfl) (by rw [row_cell hp0]; rfl) (by rw [row_cell hp0]; rfl) (by rw [row_cell ga]; rfl) (row_frozen ga _) (by rw [row_cell gd]; rfl) (row_frozen gd _)).mono ?_
    rintro r w' ⟨rfl, hw⟩
    rw [if_neg hfp]
    exact ⟨rfl, key w h.f hh (fun _ _ => rfl) (Kept.refl _ _) w' hw⟩

theorem hang_any {w : World} {c : Nat} {h : Hd} {G : List Pl} {b pins : Nat} {n : Int} {x v3 v4 v5 : Value} {nx pv : Nat → Nat} (hh : HdAt w c h) (hr : RingAt w h.e G nx pv) (hf : h.f ∈ h.e :: G.map Pl.b)
    (hb : w.heap[b]? = some (.cells #[.int .i64 n, x, .int .i64 (pins : Int), v3, v4, v5] 68 (0, 0))) (hbn : b ∉ h.e :: G.map Pl.b) (hu : h.uses < 4611686018427387904) :
    Calls Try.prog 51 #[ptr c, ptr b] w fun r w' => r = .returned (.tuple #[]) ∧ HdAt w' c { h with uses := h.uses + 1, f := if h.f = h.e then b else h.f } ∧ (∃ nx' pv', RingAt w' h.e (G ++ [⟨b, n, x, pins, h.uses + 1⟩]) nx' pv') ∧
      Kept (fun k => k = c ∨ k = b ∨ k ∈ h.e :: G.map Pl.b) w w' := by
  have hcap := hr.apart hh
  have hbc : b ≠ c := fun e => by rw [e, hh] at hb; simp at hb
  obtain ⟨_, e2⟩ := hr.ring.ends
  have hRm := hr.ring.more hbn
  have am := lstB_mem h.e (G.map Pl.b)
  generalize ha : lstB h.e (G.map Pl.b) = a at *
  have em : h.e ∈ h.e :: G.map Pl.b := by simp
  have hab : a ≠ b := fun e => hbn (e ▸ am)
  have heb : h.e ≠ b := fun e => hbn (e ▸ em)
  have hec : h.e ≠ c := fun e => hcap (e ▸ em)
  have hac : a ≠ c := fun e => hcap (e ▸ am)
  obtain ⟨qa, _, _, ga⟩ := hr.pl am
  obtain ⟨qe, _, _, ge⟩ := hr.pl em
  obtain ⟨qf, _, _, gf⟩ := hr.pl hf
  rw [e2] at ge
  have hfb : h.f ≠ b := fun e => hbn (e ▸ hf)
  have hfc : h.f ≠ c := fun e => hcap (e ▸ hf)
  have far : ∀ k, k ≠ c → k ≠ b → k ≠ a → k ≠ h.e → (hung w c b a h.e h.uses).heap[k]? = w.heap[k]? := fun k h1 h2 h3 h4 => by
    unfold hung
    rw [set_far _ h4, set_far _ h3, set_far _ h2, set_far _ h2, set_far _ h2, set_far _ h1]
  let p' : Pl := ⟨b, n, x, pins, h.uses + 1⟩
  have memH : ∀ q ∈ endP h.e :: (G ++ [p']), PlAt (hung w c b a h.e h.uses) q (upd (upd pv b a) h.e b q.b) (upd (upd nx b h.e) a b q.b) := by
    unfold hung
    refine mem_pv (mem_nx ?_ a b) h.e b
    intro q hq
    have hq' : q ∈ endP h.e :: G ∨ q = p' := by
      rcases List.mem_cons.1 hq with hq | hq
      · exact .inl (hq ▸ List.mem_cons_self ..)
      · rcases List.mem_append.1 hq with hq | hq
        · exact .inl (List.mem_cons_of_mem _ hq)
        · exact .inr (by simpa using hq)
    rcases hq' with hq | rfl
    · have hqb : q.b ∈ h.e :: G.map Pl.b := by
        rcases List.mem_cons.1 hq with rfl | hq1
        · simp [endP]
        · exact List.mem_cons_of_mem _ (List.mem_map_of_mem hq1)
      have q1 : q.b ≠ b := fun e => hbn (e ▸ hqb)
      have q2 : q.b ≠ c := fun e => hcap (e ▸ hqb)
      show (((((w.setCell _ _).setCell _ _).setCell _ _).setCell _ _)).heap[q.b]? = _
      rw [set_far _ q1, set_far _ q1, set_far _ q1, set_far _ q2, upd_other q1, upd_other q1]
      exact hr.mem q hq
    · show (((((w.setCell _ _).setCell _ _).setCell _ _).setCell _ _)).heap[b]? = _
      have g0 : (w.setCell ⟨c, 4, none⟩ (.int .u64 ((h.uses : Int) + 1))).heap[b]? = some (.cells #[.int .i64 n, x, .int .i64 (pins : Int), v3, v4, v5] 68 (0, 0)) := (set_far _ hbc).trans hb
      have g1 := heap_set_same (i := 3) (.int .u64 ((h.uses : Int) + 1)) g0
      have g2 := heap_set_same (i := 4) (ptr a) g1
      have g3 := heap_set_same (i := 5) (ptr h.e) g2
      refine g3.trans ?_
      rw [upd_same, upd_same]
      simp [plc, p']
  have hh1 : HdAt (hung w c b a h.e h.uses) c { h with uses := h.uses + 1 } := by
    show (hung w c b a h.e h.uses).heap[c]? = _
    unfold hung
    rw [set_far _ (Ne.symm hec), set_far _ (Ne.symm hac), set_far _ (Ne.symm hbc), set_far _ (Ne.symm hbc), set_far _ (Ne.symm hbc)]
    exact (heap_set_same _ hh).trans (by simp [hdr])
  have kH : Kept (fun k => k = c ∨ k = b ∨ k ∈ h.e :: G.map Pl.b) w (hung w c b a h.e h.uses) := by
    unfold hung
    refine (((((((setCell_kept _).mono (fun _ _ x => .inl x)).trans (setCell_kept _) ?_).trans (setCell_kept _) ?_).trans (setCell_kept _) ?_).trans (setCell_kept _) ?_).trans (setCell_kept _) ?_)
    · rintro k _ rfl; exact .inr (.inl rfl)
    · rintro k _ rfl; exact .inr (.inl rfl)
    · rintro k _ rfl; exact .inr (.inl rfl)
    · rintro k _ rfl; exact .inr (.inr am)
    · rintro k _ rfl; exact .inr (.inr em)
  have hgf : ∃ cur, (hung w c b a h.e h.uses).heap[h.f]? = some (.cells cur 68 (0, 0)) := by
    have : h.f ∈ (endP h.e :: (G ++ [p'])).map Pl.b := by simp [endP] at hf ⊢; exact hf.elim .inl (fun x => .inr (.inl x))
    obtain ⟨q, hq, e⟩ := List.mem_map.1 this
    have h1 : (hung w c b a h.e h.uses).heap[q.b]? = _ := memH q hq
    rw [e] at h1
    exact ⟨_, h1⟩
  have hge : ∃ cur, (hung w c b a h.e h.uses).heap[h.e]? = some (.cells cur 68 (0, 0)) := ⟨_, memH (endP h.e) (by simp)⟩
  obtain ⟨curf, hgf⟩ := hgf
  obtain ⟨cure, hge⟩ := hge
  refine (hang_walk w c b a h.e h.f h.uses (decide (h.f = h.e)) v3 v4 v5 _ hu (by rw [row_cell hh]; rfl) (by rw [row_cell hh]; rfl) (row_frozen hh _) (by rw [row_cell hh]; rfl) (row_frozen hh _) (by rw [row_cell hb]; rfl) (row_frozen hb _) (by rw [row_cell hb]; rfl) (row_frozen hb _) (by rw [row_cell hb]; rfl) (row_frozen hb _) (by rw [row_cell ge]; rfl) (row_frozen ge _) (by rw [row_cell ga]; rfl) (row_frozen ga _) hbc hab heb hec ?_).mono ?_
  · intro q
    by_cases e : h.f = h.e
    · rw [decide_eq_true e, e]
      exact ptr_same _ _
    · rw [decide_eq_false e]
      exact ptr_otherN q hgf hge e
  · rintro r w' ⟨rfl, q, hw⟩
    refine ⟨rfl, ?_⟩
    generalize hung w c b a h.e h.uses = H at *
    by_cases e : h.f = h.e
    · rw [if_pos (by simpa using e)] at hw
      rw [if_pos e]
      subst hw
      refine ⟨?_, ⟨_, _, ⟨fun q hq => ?_, by simpa using hRm⟩⟩, Kept.draws ?_ _⟩
      · exact (heap_set_same _ hh1).trans (by simp [hdr])
      · have hqb : q.b ≠ c := by
          rintro rfl
          have := (show H.heap[q.b]? = _ from memH q hq).symm.trans hh1
          simp at this
        exact (set_far (w := H) _ hqb).trans (memH q hq)
      · exact kH.trans (setCell_kept _) (by rintro k _ rfl; exact .inl rfl)
    · rw [if_neg (by simpa using e)] at hw
      rw [if_neg e]
      subst hw
      exact ⟨hh1, ⟨_, _, ⟨memH, by simpa using hRm⟩⟩, kH.draws _⟩
end Go.Proofs.Yteajgodpdfcioaa
