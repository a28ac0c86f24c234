/- Replace. -/
import Derived.Test.YtaehchijeinloaaGrow
namespace Go.Proofs.Ytaehchijeinloaa
open Go.RowKit

def replE (d : Kd) (i j : Int) (e : Kd) : Nat := if d.fit = true ∧ e.fit = true ∧ 0 ≤ i ∧ i < j ∧ j ≤ d.ps.length then 0 else 1
def replD (d : Kd) (i j : Int) (e : Kd) : Kd := if replE d i j e = 0 then replK d i.toNat j.toNat e else ⟨[], []⟩
theorem oneK {B : Nat} {w : World} {L : List Kc} (h : ∀ e ∈ L, KeyIn B w e.v e.k) : ∀ x ∈ L.map Kc.v, x.oneCell' = true := fun x hx => by
  obtain ⟨e, he, rfl⟩ := List.mem_map.1 hx
  obtain ⟨a, c, e1⟩ := (h e he).form
  rw [e1]; rfl
theorem CellsAt.part {B : Nat} {w : World} {a : Option Addr} {n c : Nat} {xs : List Value} (h : CellsAt B w (.slice a n c) xs) (k : Nat) (hk : k ≤ n) : ∀ u, (∃ g off, a = some ⟨g, off, none⟩ ∧ u = .slice (some ⟨g, off + k, none⟩) (n - k) (c - k)) ∨ (n = k ∧ ∃ b c', u = .slice (some b) 0 c') ∨ (a = none ∧ u = .slice none 0 0) → CellsAt B w u (xs.drop k) := by
  rintro u (⟨g, off, rfl, rfl⟩ | ⟨rfl, b, c', rfl⟩ | ⟨rfl, rfl⟩)
  · exact h.drop k hk
  · have hl : xs.length = n := by obtain ⟨a, c, e⟩ := h.form; cases e; rfl
    rw [List.drop_of_length_le (by omega)]
    exact CellsAt.void _ _ _ _
  · have hl : xs = [] := by
      obtain ⟨a, c, e, h2, h3, _⟩ := h.is
      cases e
      have := h3 rfl
      exact List.eq_nil_of_length_eq_zero (by omega)
    rw [hl, List.drop_nil]
    exact CellsAt.nil _ _

theorem room_form {base : Nat} {e : TypeId} {w : World} {v : Value} {xs : List Value} (h : Room base e w v xs) (hb : base ≤ w.heap.size) {n : Nat} (hn : xs.length = n) : ∃ a c, v = .slice a n c := by
  obtain ⟨a, c, e⟩ := (h.cells hb).form
  rw [hn] at e
  exact ⟨a, c, e⟩
theorem copied {w : World} {v : Value} {L : List Kc} (h : KeysAt w.heap.size w v L) : Calls Try.prog 47 #[v] w fun r w' => ∃ u, r = .returned u ∧ ∃ F, NewKeys w.heap.size w' u F ∧ keysOf F = keysOf L ∧ Below w.heap.size w w' :=
  (copies_any h).mono fun _ _ ⟨v', F, h1, h2, h3, h4⟩ => ⟨v', h1, F, h2, h3, h4⟩
theorem keys_three {W w : World} {v v1 v2 : Value} {L M : List Kc} {i k : Nat} (h : Room W.heap.size 27 w v ((L.take i ++ M).map Kc.v ++ (L.drop k).map Kc.v)) (hb : Below W.heap.size W w) (hK : KeysAt W.heap.size W v1 L) (hM : KeysAt W.heap.size W v2 M) (hl : (L.length + M.length) * 24 ≤ 140737488420864) (hik : i ≤ k ∧ k ≤ L.length) : KeysAt w.heap.size w v (L.take i ++ M ++ L.drop k) := by
  refine ⟨?_, by rw [List.length_append, List.length_append, List.length_take, List.length_drop]; omega, fun e he => ?_⟩
  · have := h.cells hb.size
    rw [← List.map_append] at this
    exact this
  · rcases List.mem_append.1 he with h | h
    · rcases List.mem_append.1 h with h | h
      · exact (hK.here hb).ok e (List.mem_of_mem_take h)
      · exact (hM.here hb).ok e h
    · exact (hK.here hb).ok e (List.mem_of_mem_drop h)
theorem keep_two {B b : Nat} {w : World} {x y : Value} (h : KBox w b x y) (hb : B ≤ b) (x' y' : Value) : Keep 26 B w ((w.setCell ⟨b, 0, none⟩ x').setCell ⟨b, 1, none⟩ y') :=
  (keep_set h.row hb _).trans (keep_set (h.set0 _).row hb _)
theorem repl_end {base W b : Nat} {wa : World} {x y vp vk : Value} {ps : List Int} {F G : List Kc} (hx : KBox wa b x y) (hb : base ≤ b) (hW : base ≤ W) (hp : NewInts W wa vp ps) (hf : NewKeys W wa vk F) (hk : keysOf F = keysOf G) :
    NewKids base ((wa.setCell ⟨b, 0, none⟩ vp).setCell ⟨b, 1, none⟩ vk) (.agg #[vp, vk]) ⟨ps, keysOf G⟩ :=
  NewKids.keep ⟨_, _, F, rfl, hp.mono hW, hf.mono hW, hk⟩ (keep_two hx hb vp vk) (by decide) (by decide) (by decide)
theorem ints_form {base : Nat} {w : World} {v : Value} {ps : List Int} (h : NewInts base w v ps) {n : Nat} (hn : ps.length = n) : ∃ a c, v = .slice a n c := by
  obtain ⟨a, c, e⟩ := (own_cells h.own (by simp)).form
  rw [List.length_map, hn] at e
  exact ⟨a, c, e⟩
set_option maxHeartbeats 3200000 in
set_option maxRecDepth 100000 in
theorem replace_any {w : World} {v u : Value} {ps qs : List Int} {L M : List Kc} {i j : Int} (h : KidsAt w.heap.size w v ps L) (hu : KidsAt w.heap.size w u qs M) (_ : (ps.length + qs.length) * 8 ≤ 140737488355328) (hl2 : (L.length + M.length) * 24 ≤ 140737488420864) :
    Calls Try.prog 23 #[v, .int .i64 i, .int .i64 j, u] w fun e w' => ∃ v', e = .returned (.tuple #[v', .int .i64 (replE (kd ps L) i j (kd qs M) : Nat)]) ∧ NewKids w.heap.size w' v' (replD (kd ps L) i j (kd qs M)) ∧ Below w.heap.size w w' := by
  obtain ⟨i0, hi, hz0, hz1, hz2⟩ := infoI'
  obtain ⟨i7, hi7, hz70, hz71, hz72⟩ := infoB'
  obtain ⟨vp, vk, rfl, h1, h2⟩ := h.is
  obtain ⟨a1, c1, rfl⟩ := h1.form
  obtain ⟨a2, c2, rfl⟩ := h2.form
  obtain ⟨up, uk, rfl, h3, h4⟩ := hu.is
  obtain ⟨a3, c3, rfl⟩ := h3.form
  obtain ⟨a4, c4, rfl⟩ := h4.form
  obtain ⟨W, hW⟩ : ∃ W, W = ((w.alloc (.cells #[.slice a1 ps.length c1, .slice a2 L.length c2] 26)).alloc (.cells #[.slice a3 qs.length c3, .slice a4 M.length c4] 26)).alloc (.cells #[.slice none 0 0, .slice none 0 0] 26) := ⟨_, rfl⟩
  have HBW : Hid (Below w.heap.size w W) := by rw [hW]; exact ((below_new w _).alloc (by simp) _).alloc (by simp; omega) _
  have HX : Hid (KBox W w.heap.size (.slice a1 ps.length c1) (.slice a2 L.length c2)) := by
    rw [hW]; exact ((KBox.new w _ _).here (below_new _ _)).here (below_new _ _)
  have HY : Hid (KBox W (w.heap.size + 1) (.slice a3 qs.length c3) (.slice a4 M.length c4)) := by
    rw [hW]
    have := (KBox.new (w.alloc (.cells #[.slice a1 ps.length c1, .slice a2 L.length c2] 26)) (.slice a3 qs.length c3) (.slice a4 M.length c4)).here (below_new _ (.cells #[.slice none 0 0, .slice none 0 0] 26))
    show KBox _ _ _ _
    simpa using this
  have HZ : Hid (KBox W (w.heap.size + 2) (.slice none 0 0) (.slice none 0 0)) := by
    rw [hW]
    have := KBox.new ((w.alloc (.cells #[.slice a1 ps.length c1, .slice a2 L.length c2] 26)).alloc (.cells #[.slice a3 qs.length c3, .slice a4 M.length c4] 26)) (.slice none 0 0) (.slice none 0 0)
    show KBox _ _ _ _
    simpa using this
  have HF1 : Hid (∀ W', Below W.heap.size W W' → Calls Try.prog 43 #[.agg #[.slice a1 ps.length c1, .slice a2 L.length c2]] W' fun r w' => r = .returned (.bool (kd ps L).fit) ∧ Below W'.heap.size W' w') := fun W' hb => fit_any ((KidsAt.here ⟨_, _, rfl, h1, h2⟩ HBW.out).here hb)
  have HF2 : Hid (∀ W', Below W.heap.size W W' → Calls Try.prog 43 #[.agg #[.slice a3 qs.length c3, .slice a4 M.length c4]] W' fun r w' => r = .returned (.bool (kd qs M).fit) ∧ Below W'.heap.size W' w') := fun W' hb => fit_any ((KidsAt.here ⟨_, _, rfl, h3, h4⟩ HBW.out).here hb)
  have HP : Hid (IntsAt W.heap.size W (.slice a1 ps.length c1) ps) := h1.here HBW.out
  have HK : Hid (KeysAt W.heap.size W (.slice a2 L.length c2) L) := h2.here HBW.out
  have HQ : Hid (IntsAt W.heap.size W (.slice a3 qs.length c3) qs) := h3.here HBW.out
  have HM : Hid (KeysAt W.heap.size W (.slice a4 M.length c4) M) := h4.here HBW.out
  clear h hu h1 h2 h3 h4
  obtain ⟨k0, k1⟩ := HX.out.cells
  obtain ⟨l0, l1⟩ := HY.out.cells
  have HBAD : Hid (∀ W', replE (kd ps L) i j (kd qs M) = 1 → Below W.heap.size W W' → KBox W' (w.heap.size + 2) (.slice none 0 0) (.slice none 0 0) →
      ∃ v', Ending.returned (.tuple #[.agg #[.slice none 0 0, .slice none 0 0], .int .i64 1]) = .returned (.tuple #[v', .int .i64 (replE (kd ps L) i j (kd qs M) : Nat)]) ∧ NewKids w.heap.size ((W'.setCell ⟨w.heap.size + 2, 0, none⟩ (.slice none 0 0)).setCell ⟨w.heap.size + 2, 1, none⟩ (.slice none 0 0)) v' (replD (kd ps L) i j (kd qs M)) ∧ Below w.heap.size w ((W'.setCell ⟨w.heap.size + 2, 0, none⟩ (.slice none 0 0)).setCell ⟨w.heap.size + 2, 1, none⟩ (.slice none 0 0))) := fun W' he hb hx =>
    ⟨_, by rw [he]; rfl, by unfold replD; rw [he, if_neg (by decide)]; exact NewKids.nil _ _, hx.putNil (HBW.out.trans (hb.mono HBW.out.size)) (by omega)⟩
  cases hf : (kd ps L).fit with
  | false =>
    have HE : Hid (replE (kd ps L) i j (kd qs M) = 1) := by unfold replE; rw [Hid, hf]; simp
    rw [hf] at HF1
    clear hf
    go_enter Try.func23, Try.ntmps23
    go_upto_region 1 with fail
    rw [← hW]
    clear hW
    go_wp2_with fail
    refine (HF1.out _ (Below.refl _ _)).mono ?_
    rintro e w1 ⟨rfl, hb1⟩
    have HB1 : Hid (Below W.heap.size W w1) := hb1
    obtain ⟨m0, m1⟩ := (HX.out.here hb1).cells
    obtain ⟨n0, n1⟩ := (HY.out.here hb1).cells
    clear hb1 k0 k1 l0 l1
    have HZ1 : Hid (KBox w1 (w.heap.size + 2) (.slice none 0 0) (.slice none 0 0)) := HZ.out.here HB1.out
    obtain ⟨z0, z1⟩ := HZ1.out.cells
    obtain ⟨f0, f1⟩ := HZ1.out.open
    go_wp2
    exact bodyPost_ret (ret_kids2 (u := .int .i64 1) rfl rfl rfl (HZ1.out.put _ _)) rfl (HBAD.out w1 HE.out HB1.out HZ1.out)
  | true =>
    have hfl := fit_iff.1 hf
    have hlL : L.length + 1 = ps.length := by
      have : (kd ps L).ks.length = L.length := keysOf_length L
      have h2 := hfl.2
      rw [this] at h2
      exact h2
    rw [hf] at HF1
    cases hg : (kd qs M).fit with
    | false =>
      have HE : Hid (replE (kd ps L) i j (kd qs M) = 1) := by unfold replE; rw [Hid, hg]; simp
      rw [hg] at HF2
      clear hf hg hfl
      go_enter Try.func23, Try.ntmps23
      go_upto_region 1 with fail
      rw [← hW]
      clear hW
      go_wp2_with fail
      refine (HF1.out _ (Below.refl _ _)).mono ?_
      rintro e w1 ⟨rfl, hb1⟩
      have HB1 : Hid (Below W.heap.size W w1) := hb1
      obtain ⟨m0, m1⟩ := (HX.out.here hb1).cells
      obtain ⟨n0, n1⟩ := (HY.out.here hb1).cells
      clear hb1 k0 k1 l0 l1
      go_wp2_with fail
      refine (HF2.out _ HB1.out).mono ?_
      rintro e w2 ⟨rfl, hb2⟩
      have HB2 : Hid (Below W.heap.size W w2) := HB1.out.trans (hb2.mono HB1.out.size)
      obtain ⟨p0, p1⟩ := (HX.out.here HB2.out).cells
      obtain ⟨q0, q1⟩ := (HY.out.here HB2.out).cells
      clear hb2 m0 m1 n0 n1
      have HZ2 : Hid (KBox w2 (w.heap.size + 2) (.slice none 0 0) (.slice none 0 0)) := HZ.out.here HB2.out
      obtain ⟨z0, z1⟩ := HZ2.out.cells
      obtain ⟨f0, f1⟩ := HZ2.out.open
      go_wp2
      exact bodyPost_ret (ret_kids2 (u := .int .i64 1) rfl rfl rfl (HZ2.out.put _ _)) rfl (HBAD.out w2 HE.out HB2.out HZ2.out)
    | true =>
      have hgl := fit_iff.1 hg
      have hlM : M.length + 1 = qs.length := by
        have : (kd qs M).ks.length = M.length := keysOf_length M
        have h2 := hgl.2
        rw [this] at h2
        exact h2
      rw [hg] at HF2
      by_cases hi0 : i < 0
      · have HE : Hid (replE (kd ps L) i j (kd qs M) = 1) := by unfold replE; rw [Hid, if_neg (by show ¬ (_ ∧ _ ∧ 0 ≤ i ∧ i < j ∧ j ≤ (ps.length : Nat)); omega)]
        clear hf hg hfl hgl
        go_enter Try.func23, Try.ntmps23
        go_upto_region 1 with fail
        rw [← hW]
        clear hW
        go_wp2_with fail
        refine (HF1.out _ (Below.refl _ _)).mono ?_
        rintro e w1 ⟨rfl, hb1⟩
        have HB1 : Hid (Below W.heap.size W w1) := hb1
        obtain ⟨m0, m1⟩ := (HX.out.here hb1).cells
        obtain ⟨n0, n1⟩ := (HY.out.here hb1).cells
        clear hb1 k0 k1 l0 l1
        go_wp2_with fail
        refine (HF2.out _ HB1.out).mono ?_
        rintro e w2 ⟨rfl, hb2⟩
        have HB2 : Hid (Below W.heap.size W w2) := HB1.out.trans (hb2.mono HB1.out.size)
        obtain ⟨p0, p1⟩ := (HX.out.here HB2.out).cells
        obtain ⟨q0, q1⟩ := (HY.out.here HB2.out).cells
        clear hb2 m0 m1 n0 n1
        have HZ2 : Hid (KBox w2 (w.heap.size + 2) (.slice none 0 0) (.slice none 0 0)) := HZ.out.here HB2.out
        obtain ⟨z0, z1⟩ := HZ2.out.cells
        obtain ⟨f0, f1⟩ := HZ2.out.open
        go_wp2
        exact bodyPost_ret (ret_kids2 (u := .int .i64 1) rfl rfl rfl (HZ2.out.put _ _)) rfl (HBAD.out w2 HE.out HB2.out HZ2.out)
      · skip
        by_cases hij : j ≤ i
        · have HE : Hid (replE (kd ps L) i j (kd qs M) = 1) := by unfold replE; rw [Hid, if_neg (by show ¬ (_ ∧ _ ∧ 0 ≤ i ∧ i < j ∧ j ≤ (ps.length : Nat)); omega)]
          clear hf hg hfl hgl
          go_enter Try.func23, Try.ntmps23
          go_upto_region 1 with fail
          rw [← hW]
          clear hW
          go_wp2_with fail
          refine (HF1.out _ (Below.refl _ _)).mono ?_
          rintro e w1 ⟨rfl, hb1⟩
          have HB1 : Hid (Below W.heap.size W w1) := hb1
          obtain ⟨m0, m1⟩ := (HX.out.here hb1).cells
          obtain ⟨n0, n1⟩ := (HY.out.here hb1).cells
          clear hb1 k0 k1 l0 l1
          go_wp2_with fail
          refine (HF2.out _ HB1.out).mono ?_
          rintro e w2 ⟨rfl, hb2⟩
          have HB2 : Hid (Below W.heap.size W w2) := HB1.out.trans (hb2.mono HB1.out.size)
          obtain ⟨p0, p1⟩ := (HX.out.here HB2.out).cells
          obtain ⟨q0, q1⟩ := (HY.out.here HB2.out).cells
          clear hb2 m0 m1 n0 n1
          have HZ2 : Hid (KBox w2 (w.heap.size + 2) (.slice none 0 0) (.slice none 0 0)) := HZ.out.here HB2.out
          obtain ⟨z0, z1⟩ := HZ2.out.cells
          obtain ⟨f0, f1⟩ := HZ2.out.open
          go_wp2
          exact bodyPost_ret (ret_kids2 (u := .int .i64 1) rfl rfl rfl (HZ2.out.put _ _)) rfl (HBAD.out w2 HE.out HB2.out HZ2.out)
        · skip
          by_cases hjp : (ps.length : Int) < j
          · have HE : Hid (replE (kd ps L) i j (kd qs M) = 1) := by unfold replE; rw [Hid, if_neg (by show ¬ (_ ∧ _ ∧ 0 ≤ i ∧ i < j ∧ j ≤ (ps.length : Nat)); omega)]
            clear hf hg hfl hgl
            go_enter Try.func23, Try.ntmps23
            go_upto_region 1 with fail
            rw [← hW]
            clear hW
            go_wp2_with fail
            refine (HF1.out _ (Below.refl _ _)).mono ?_
            rintro e w1 ⟨rfl, hb1⟩
            have HB1 : Hid (Below W.heap.size W w1) := hb1
            obtain ⟨m0, m1⟩ := (HX.out.here hb1).cells
            obtain ⟨n0, n1⟩ := (HY.out.here hb1).cells
            clear hb1 k0 k1 l0 l1
            go_wp2_with fail
            refine (HF2.out _ HB1.out).mono ?_
            rintro e w2 ⟨rfl, hb2⟩
            have HB2 : Hid (Below W.heap.size W w2) := HB1.out.trans (hb2.mono HB1.out.size)
            obtain ⟨p0, p1⟩ := (HX.out.here HB2.out).cells
            obtain ⟨q0, q1⟩ := (HY.out.here HB2.out).cells
            clear hb2 m0 m1 n0 n1
            have HZ2 : Hid (KBox w2 (w.heap.size + 2) (.slice none 0 0) (.slice none 0 0)) := HZ.out.here HB2.out
            obtain ⟨z0, z1⟩ := HZ2.out.cells
            obtain ⟨f0, f1⟩ := HZ2.out.open
            go_wp2
            exact bodyPost_ret (ret_kids2 (u := .int .i64 1) rfl rfl rfl (HZ2.out.put _ _)) rfl (HBAD.out w2 HE.out HB2.out HZ2.out)
          · skip
            obtain ⟨ni, hni⟩ : ∃ n : Nat, i = (n : Int) := ⟨i.toNat, by omega⟩
            obtain ⟨nj, hnj⟩ : ∃ n : Nat, j = (n : Int) := ⟨j.toNat, by omega⟩
            subst hni
            subst hnj
            have HE : Hid (replE (kd ps L) ni nj (kd qs M) = 0) := by unfold replE; rw [Hid, if_pos ⟨hf, hg, by omega, by omega, by show (nj : Int) ≤ (ps.length : Nat); omega⟩]
            have HD : Hid (replD (kd ps L) ni nj (kd qs M) = replK (kd ps L) ni nj (kd qs M)) := by unfold replD; rw [Hid, HE.out]; rfl
            clear hf hg hfl hgl
            go_enter Try.func23, Try.ntmps23
            go_upto_region 1 with fail
            rw [← hW]
            clear hW
            go_wp2_with fail
            refine (HF1.out _ (Below.refl _ _)).mono ?_
            rintro e w1 ⟨rfl, hb1⟩
            have HB1 : Hid (Below W.heap.size W w1) := hb1
            obtain ⟨m0, m1⟩ := (HX.out.here hb1).cells
            obtain ⟨n0, n1⟩ := (HY.out.here hb1).cells
            clear hb1 k0 k1 l0 l1
            go_wp2_with fail
            refine (HF2.out _ HB1.out).mono ?_
            rintro e w2 ⟨rfl, hb2⟩
            have HB2 : Hid (Below W.heap.size W w2) := HB1.out.trans (hb2.mono HB1.out.size)
            obtain ⟨p0, p1⟩ := (HX.out.here HB2.out).cells
            obtain ⟨q0, q1⟩ := (HY.out.here HB2.out).cells
            clear hb2 m0 m1 n0 n1
            go_upto_region 3 with fail
            obtain ⟨g1, o1, e1⟩ : ∃ g off, a1 = some ⟨g, off, none⟩ := by
              obtain ⟨x, hx⟩ : ∃ x, ps[0]? = some x := ⟨ps[0]'(by omega), List.getElem?_eq_getElem _⟩
              obtain ⟨g, off, c, e, _⟩ := HP.out.cell 0 x hx
              cases e
              exact ⟨g, off, rfl⟩
            subst e1
            have hc1 : ps.length ≤ c1 := by
              obtain ⟨a, c, e, h, _⟩ := HP.out.row.is
              simp only [List.length_map] at e h
              cases e; exact h
            have hnc : (ni : Int) ≤ (c1 : Int) := by omega
            have hnc2 : ni ≤ c1 := by omega
            have hni0 : (0 : Int) ≤ (ni : Int) := by omega
            have hmx : max (ni : Int) 0 = (ni : Int) := by omega
            have HRP : Hid (∀ W', Below W.heap.size W W' → Room W.heap.size 3 W' (.slice (some ⟨g1, o1, none⟩) ni ni) ((ps.take ni).map encI)) := fun W' hb => by
              refine ⟨.inr ⟨?_, ⟨g1, o1, none⟩, by rw [List.length_map, List.length_take, Nat.min_eq_left (by omega)]⟩⟩
              exact ((HP.out.take ni (by omega) ni (Nat.le_refl _) hnc2).row).below hb
            have hlt : ((ps.take ni).map encI).length = ni := by rw [List.length_map, List.length_take]; omega
            have HLT : Hid _ := hlt
            have HQN : Hid (qs.map encI ≠ []) := by
              rw [Hid]; intro e
              have : (qs.map encI).length = 0 := by rw [e]; rfl
              rw [List.length_map] at this
              omega
            clear hlt
            go_cut [10] (fun s10 wx => (∃ a c, s10 = .slice a (ni + qs.length) c) ∧ NewInts W.heap.size wx s10 (ps.take ni ++ qs) ∧ Below W.heap.size W wx)
            case first =>
              go_region_law
                (first
                  | (refine step_append_rows (by rfl) _ _ 23 (by rfl) 3 i0 (.int .i64 0) 8 Try.underlying23 hi hz0 hz1 hz2 rfl W.heap.size (.slice (some ⟨g1, o1, none⟩) ni ni) (.slice a3 qs.length c3) ((ps.take ni).map encI) (qs.map encI) (by rfl) (HRP.out _ (by exact HB2.out.drew)) (by rfl) (by exact (HQ.out.here HB2.out.drew).row) (oneI qs) (by rw [HLT.out, List.length_map]; unfold maxLen; omega) (by rw [HLT.out, List.length_map]; omega) (by exact HB2.out.size) ?_
                     intro v5 w5 _ hk5 ho5
                     have ho5' := ho5 (.inl HQN.out)
                     have HB5 : Hid (Below W.heap.size W w5) := HB2.out.drew.trans hk5.low
                     obtain ⟨m0, _⟩ := (HX.out.here HB5.out).cells
                     obtain ⟨n0, _⟩ := (HY.out.here HB5.out).cells
                     have HN5 : Hid (NewInts W.heap.size w5 v5 (ps.take ni ++ qs)) := ⟨by rw [List.map_append]; have := ho5'; rw [List.length_append, List.length_map, List.length_map] at this; rw [List.length_append]; exact this⟩
                     obtain ⟨a5, c5, e5⟩ : ∃ a c, v5 = .slice a (ni + qs.length) c := ints_form HN5.out (by rw [List.length_append, List.length_take]; omega)
                     subst e5
                     clear hk5 ho5 ho5'))
              all_goals
                go_wp2_with fail
                go_meet
                exact ⟨⟨a5, c5, rfl⟩, HN5.out, HB5.out⟩
            case rest =>
              obtain ⟨⟨a5, c5, rfl⟩, hn5, hb5⟩ := hcut
              have HN5 : Hid (NewInts W.heap.size wc (.slice a5 (ni + qs.length) c5) (ps.take ni ++ qs)) := hn5
              have HB5 : Hid (Below W.heap.size W wc) := hb5
              obtain ⟨w5, hw5⟩ : ∃ w5, w5 = wc := ⟨_, rfl⟩
              rw [← hw5] at HN5 HB5
              rw [← hw5]
              clear hn5 hb5 hw5 HLT HQN HRP p0 p1 q0 q1
              obtain ⟨_, p1⟩ := (HX.out.here HB5.out).cells
              obtain ⟨_, q1⟩ := (HY.out.here HB5.out).cells
              go_upto_region 4 with fail
              have HLK : Hid (((L.take ni).map Kc.v).length = ni) := by rw [Hid, List.length_map, List.length_take]; omega
              obtain ⟨hc2, hn2⟩ : L.length ≤ c2 ∧ (a2 = none → c2 = 0) := by
                obtain ⟨a, c, e, h, h', _⟩ := HK.out.row.is
                simp only [List.length_map] at e h
                cases e; exact ⟨h, h'⟩
              go_cut [11] (fun s11 wx => (∃ a c, s11 = .slice a (ni + M.length) c) ∧ Room W.heap.size 27 wx s11 ((L.take ni ++ M).map Kc.v) ∧ NewInts W.heap.size wx (.slice a5 (ni + qs.length) c5) (ps.take ni ++ qs) ∧ Below W.heap.size W wx)
              case first =>
                cases a2 with
                | none =>
                  have HRN : Hid (∀ W', Room W.heap.size 27 W' (.slice none ni ni) ((L.take ni).map Kc.v)) := fun W' => by
                    have h1 := hn2 rfl
                    have h0 : ni = 0 := by omega
                    subst h0
                    exact ⟨.inl (World.ownsRow_nil _ _ _ _)⟩
                  have hnk : (ni : Int) ≤ (c2 : Int) := by omega
                  clear hn2
                  go_region_law
                    (first
                      | (refine step_append_rows (by rfl) _ _ 24 (by rfl) 27 i7 (.slice none 0 0) 24 Try.underlying24 hi7 hz70 hz71 hz72 rfl W.heap.size (.slice none ni ni) (.slice a4 M.length c4) ((L.take ni).map Kc.v) (M.map Kc.v) (by rfl) (HRN.out _) (by rfl) (by exact (HM.out.here HB5.out.drew).row) (oneK HM.out.ok) (by rw [HLK.out, List.length_map]; unfold maxLen; omega) (by rw [HLK.out, List.length_map]; omega) (by exact HB5.out.size) ?_
                         intro v6 w6 hr6 hk6 _
                         have HB6 : Hid (Below W.heap.size W w6) := HB5.out.drew.trans hk6.low
                         have HN6 : Hid (NewInts W.heap.size w6 (.slice a5 (ni + qs.length) c5) (ps.take ni ++ qs)) := (HN5.out.here (Below.refl _ _).drew).keep hk6 (by decide)
                         have HR6 : Hid (Room W.heap.size 27 w6 v6 ((L.take ni ++ M).map Kc.v)) := by rw [List.map_append]; exact hr6
                         obtain ⟨a6, c6, e6⟩ : ∃ a c, v6 = .slice a (ni + M.length) c := room_form HR6.out HB6.out.size (by rw [List.length_map, List.length_append, List.length_take]; omega)
                         subst e6
                         clear hk6 hr6))
                  all_goals
                    go_wp2_with fail
                    go_meet
                    exact ⟨⟨a6, c6, rfl⟩, HR6.out, HN6.out, HB6.out⟩
                | some ad =>
                  obtain ⟨g2, o2, s2⟩ := ad
                  have hnk : (ni : Int) ≤ (c2 : Int) := by omega
                  have HRK : Hid (∀ W', Below W.heap.size W W' → Room W.heap.size 27 W' (.slice (some ⟨g2, o2, s2⟩) ni ni) ((L.take ni).map Kc.v)) := fun W' hb => by
                    refine ⟨.inr ⟨?_, ⟨g2, o2, s2⟩, by rw [HLK.out]⟩⟩
                    exact ((HK.out.take ni (by omega) ni (Nat.le_refl _) (by omega)).row).below hb
                  go_region_law
                    (first
                      | (refine step_append_rows (by rfl) _ _ 24 (by rfl) 27 i7 (.slice none 0 0) 24 Try.underlying24 hi7 hz70 hz71 hz72 rfl W.heap.size (.slice (some ⟨g2, o2, s2⟩) ni ni) (.slice a4 M.length c4) ((L.take ni).map Kc.v) (M.map Kc.v) (by rfl) (HRK.out _ (by exact HB5.out.drew)) (by rfl) (by exact (HM.out.here HB5.out.drew).row) (oneK HM.out.ok) (by rw [HLK.out, List.length_map]; unfold maxLen; omega) (by rw [HLK.out, List.length_map]; omega) (by exact HB5.out.size) ?_
                         intro v6 w6 hr6 hk6 _
                         have HB6 : Hid (Below W.heap.size W w6) := HB5.out.drew.trans hk6.low
                         have HN6 : Hid (NewInts W.heap.size w6 (.slice a5 (ni + qs.length) c5) (ps.take ni ++ qs)) := (HN5.out.here (Below.refl _ _).drew).keep hk6 (by decide)
                         have HR6 : Hid (Room W.heap.size 27 w6 v6 ((L.take ni ++ M).map Kc.v)) := by rw [List.map_append]; exact hr6
                         obtain ⟨a6, c6, e6⟩ : ∃ a c, v6 = .slice a (ni + M.length) c := room_form HR6.out HB6.out.size (by rw [List.length_map, List.length_append, List.length_take]; omega)
                         subst e6
                         clear hk6 hr6))
                  all_goals
                    go_wp2_with fail
                    go_meet
                    exact ⟨⟨a6, c6, rfl⟩, HR6.out, HN6.out, HB6.out⟩
              case rest =>
                obtain ⟨⟨a6, c6, rfl⟩, hr6, hn6, hb6⟩ := hcut
                have HR6 : Hid (Room W.heap.size 27 wc (.slice a6 (ni + M.length) c6) ((L.take ni ++ M).map Kc.v)) := hr6
                have HN6 : Hid (NewInts W.heap.size wc (.slice a5 (ni + qs.length) c5) (ps.take ni ++ qs)) := hn6
                have HB6 : Hid (Below W.heap.size W wc) := hb6
                clear hr6 hn6 hb6 HLK p1 q1
                obtain ⟨x0, x1⟩ := (HX.out.here HB6.out).cells
                obtain ⟨nk, hnk⟩ : ∃ nk : Nat, nj = nk + 1 := ⟨nj - 1, by omega⟩
                have hnj1 : (nj : Int) - 1 = (nk : Int) := by omega
                have hwk : IntKind.i64.wrap (nk : Int) = (nk : Int) := wrapk_of _ (by omega) (by omega)
                have HNK : Hid (nj = nk + 1) := hnk
                have HNIK : Hid (ni ≤ nk ∧ nk ≤ L.length) := ⟨by omega, by omega⟩
                have hjc : (nj : Int) ≤ (ps.length : Int) := by omega
                have hkc : (nk : Int) ≤ (L.length : Int) := by omega
                have HOP : Hid (wc.drew.ownsRow W.heap.size 3 1 (.slice a5 (ni + qs.length) c5) ((ps.take ni ++ qs).map encI).length ((ps.take ni ++ qs).map encI)) := by
                  have := (HN6.out.here (Below.refl _ _).drew).own
                  rw [List.length_map]; exact this
                have HRP : Hid (Room W.heap.size 3 wc.drew (.slice a5 (ni + qs.length) c5) ((ps.take ni ++ qs).map encI)) := ⟨.inl HOP.out⟩
                have HL5 : Hid (((ps.take ni ++ qs).map encI).length = ni + qs.length) := by rw [Hid, List.length_map, List.length_append, List.length_take]; omega
                have HLD : Hid (((ps.drop nj).map encI).length = ps.length - nj) := by rw [Hid, List.length_map, List.length_drop]
                have HL6 : Hid (((L.take ni ++ M).map Kc.v).length = ni + M.length) := by rw [Hid, List.length_map, List.length_append, List.length_take]; omega
                have HLE : Hid (((L.drop nk).map Kc.v).length = L.length - nk) := by rw [Hid, List.length_map, List.length_drop]
                have HPD : Hid (CellsAt wc.drew.heap.size wc.drew (.slice (if c1 = nj then some ⟨g1, o1, none⟩ else some ⟨g1, o1 + nj, none⟩) (ps.length - nj) (c1 - nj)) ((ps.drop nj).map encI)) := by
                  rw [List.map_drop]
                  refine ((HP.out.here HB6.out.drew).row).part nj (by omega) _ ?_
                  by_cases hcn : c1 = nj
                  · rw [if_pos hcn]
                    exact .inr (.inl ⟨by omega, _, _, by rw [show ps.length - nj = 0 by omega]⟩)
                  · rw [if_neg hcn]
                    exact .inl ⟨g1, o1, rfl, rfl⟩
                have hRK : replK (kd ps L) ni nj (kd qs M) = ⟨ps.take ni ++ qs ++ ps.drop nj, keysOf (L.take ni ++ M ++ L.drop nk)⟩ := by
                  have e : nj - 1 = nk := by omega
                  simp [replK, kd, keysOf, e]
                have HRK : Hid _ := hRK
                clear hRK hnk
                go_upto_region 5 with fail
                cases a2 with
                | none =>
                  have hc2k : (nk : Int) ≤ (c2 : Int) := by omega
                  have HKD : Hid (∀ W', Below W.heap.size W W' → CellsAt W'.heap.size W' (.slice none (L.length - nk) (c2 - nk)) ((L.drop nk).map Kc.v)) := fun W' hb => by
                    have h0 := hn2 rfl
                    rw [List.drop_of_length_le (by omega), show L.length - nk = 0 by omega, show c2 - nk = 0 by omega]
                    exact CellsAt.nil _ _
                  clear hn2
                  go_region_law
                    (first
                      | (refine step_append_rows (by rfl) _ _ 23 (by rfl) 3 i0 (.int .i64 0) 8 Try.underlying23 hi hz0 hz1 hz2 rfl W.heap.size (.slice a5 (ni + qs.length) c5) _ ((ps.take ni ++ qs).map encI) ((ps.drop nj).map encI) (by rfl) (by exact HRP.out) (by rfl) (by exact HPD.out) (oneI _) (by rw [HL5.out, HLD.out]; unfold maxLen; omega) (by rw [HL5.out, HLD.out]; omega) (by exact HB6.out.size) ?_
                         intro v8 w8 _ hk8 ho8
                         have ho8' := ho8 (.inr HOP.out)
                         have HB8 : Hid (Below W.heap.size W w8) := HB6.out.drew.trans hk8.low
                         have HN8 : Hid (NewInts W.heap.size w8 v8 (ps.take ni ++ qs ++ ps.drop nj)) := ⟨by have := ho8'; rw [← List.map_append, List.length_map] at this; exact this⟩
                         have HR8 : Hid (Room W.heap.size 27 w8 (.slice a6 (ni + M.length) c6) ((L.take ni ++ M).map Kc.v)) := (HR6.out.here (Below.refl _ _).drew HB6.out.size).keep hk8 (by decide)
                         obtain ⟨a8, c8, e8⟩ : ∃ a c, v8 = .slice a (ni + qs.length + (ps.length - nj)) c := ints_form HN8.out (by rw [List.length_append, List.length_append, List.length_take, List.length_drop]; omega)
                         subst e8
                         obtain ⟨_, y1⟩ := (HX.out.here HB8.out).cells
                         clear hk8 ho8 ho8')
                      | (refine step_append_rows (by rfl) _ _ 24 (by rfl) 27 i7 (.slice none 0 0) 24 Try.underlying24 hi7 hz70 hz71 hz72 rfl W.heap.size (.slice a6 (ni + M.length) c6) _ ((L.take ni ++ M).map Kc.v) ((L.drop nk).map Kc.v) (by rfl) (by exact HR8.out) (by rfl) (by exact HKD.out w8 HB8.out) (oneK fun e he => HK.out.ok e (List.mem_of_mem_drop he)) (by rw [HL6.out, HLE.out]; unfold maxLen; omega) (by rw [HL6.out, HLE.out]; omega) (by exact HB8.out.size) ?_
                         intro v9 w9 hr9 hk9 _
                         have HB9 : Hid (Below W.heap.size W w9) := HB8.out.trans hk9.low
                         have HN9 : Hid (NewInts W.heap.size w9 (.slice a8 (ni + qs.length + (ps.length - nj)) c8) (ps.take ni ++ qs ++ ps.drop nj)) := HN8.out.keep hk9 (by decide)
                         have HK9 : Hid (KeysAt w9.heap.size w9 v9 (L.take ni ++ M ++ L.drop nk)) := keys_three hr9 HB9.out HK.out HM.out hl2 HNIK.out
                         obtain ⟨a9, n9, c9, e9⟩ : ∃ a n c, v9 = .slice a n c := HK9.out.form.elim fun a h => h.elim fun c e => ⟨a, _, c, e⟩
                         subst e9
                         clear hr9 hk9)
                      | (refine step_call_new (by rfl) 47 (Go.Proofs.enters_of Try.func47 (by kernel_rfl) rfl) _ _ (by rfl) _ _ (by rfl) (by exact copied HK9.out) ?_
                         rintro va wa ⟨F, hna, hka, hba⟩
                         have HBA : Hid (Below W.heap.size W wa) := HB9.out.trans (hba.mono HB9.out.size)
                         have HNA : Hid (NewInts W.heap.size wa (.slice a8 (ni + qs.length + (ps.length - nj)) c8) (ps.take ni ++ qs ++ ps.drop nj)) := HN9.out.here hba
                         have HFA : Hid (NewKeys W.heap.size wa va F) := hna.mono HB9.out.size
                         have HKA : Hid (keysOf F = keysOf (L.take ni ++ M ++ L.drop nk)) := hka
                         obtain ⟨aa, ca, ea⟩ : ∃ a c, va = .slice a F.length c := (own_cells hna.own (by simp)).form.elim fun a h => h.elim fun c e => ⟨a, c, by rw [List.length_map] at e; exact e⟩
                         subst ea
                         obtain ⟨r0, r1⟩ := (HZ.out.here HBA.out).cells
                         obtain ⟨s0, s1⟩ := (HZ.out.here HBA.out).open
                         clear hna hka hba))
                  all_goals go_wp2_with fail
                  all_goals
                    refine bodyPost_ret (ret_kids2 (u := .int .i64 0) rfl rfl rfl ((HZ.out.here HBA.out).put _ _)) rfl ⟨_, by rw [HE.out]; rfl, ?_, ?_⟩
                    · rw [HD.out, HRK.out]
                      exact repl_end (HZ.out.here HBA.out) (by omega) HBW.out.size HNA.out HFA.out HKA.out
                    · exact (HBW.out.trans (HBA.out.mono HBW.out.size)).trans (keep_two (HZ.out.here HBA.out) (show w.heap.size ≤ w.heap.size + 2 by omega) _ _).low
                | some ad =>
                  obtain ⟨g2, o2, s2⟩ := ad
                  have HKD : Hid (∀ W', Below W.heap.size W W' → CellsAt W'.heap.size W' (.slice (if c2 = nk then some ⟨g2, o2, s2⟩ else some ((⟨g2, o2, s2⟩ : Addr).add nk)) (L.length - nk) (c2 - nk)) ((L.drop nk).map Kc.v)) := fun W' hb => by
                    by_cases h0 : L.length - nk = 0
                    · rw [h0, List.drop_of_length_le (by omega)]
                      split <;> exact CellsAt.void _ _ _ _
                    · rw [List.map_drop, if_neg (by omega)]
                      obtain ⟨e, he⟩ : ∃ e, L[0]? = some e := ⟨L[0]'(by omega), List.getElem?_eq_getElem _⟩
                      obtain ⟨_, _, _, e1, _⟩ := HK.out.cell 0 e he
                      cases e1
                      rw [add_at]
                      exact ((HK.out.here hb).row).drop nk (by omega)
                  go_region_law
                    (first
                      | (refine step_append_rows (by rfl) _ _ 23 (by rfl) 3 i0 (.int .i64 0) 8 Try.underlying23 hi hz0 hz1 hz2 rfl W.heap.size (.slice a5 (ni + qs.length) c5) _ ((ps.take ni ++ qs).map encI) ((ps.drop nj).map encI) (by rfl) (by exact HRP.out) (by rfl) (by exact HPD.out) (oneI _) (by rw [HL5.out, HLD.out]; unfold maxLen; omega) (by rw [HL5.out, HLD.out]; omega) (by exact HB6.out.size) ?_
                         intro v8 w8 _ hk8 ho8
                         have ho8' := ho8 (.inr HOP.out)
                         have HB8 : Hid (Below W.heap.size W w8) := HB6.out.drew.trans hk8.low
                         have HN8 : Hid (NewInts W.heap.size w8 v8 (ps.take ni ++ qs ++ ps.drop nj)) := ⟨by have := ho8'; rw [← List.map_append, List.length_map] at this; exact this⟩
                         have HR8 : Hid (Room W.heap.size 27 w8 (.slice a6 (ni + M.length) c6) ((L.take ni ++ M).map Kc.v)) := (HR6.out.here (Below.refl _ _).drew HB6.out.size).keep hk8 (by decide)
                         obtain ⟨a8, c8, e8⟩ : ∃ a c, v8 = .slice a (ni + qs.length + (ps.length - nj)) c := ints_form HN8.out (by rw [List.length_append, List.length_append, List.length_take, List.length_drop]; omega)
                         subst e8
                         obtain ⟨_, y1⟩ := (HX.out.here HB8.out).cells
                         clear hk8 ho8 ho8')
                      | (refine step_append_rows (by rfl) _ _ 24 (by rfl) 27 i7 (.slice none 0 0) 24 Try.underlying24 hi7 hz70 hz71 hz72 rfl W.heap.size (.slice a6 (ni + M.length) c6) _ ((L.take ni ++ M).map Kc.v) ((L.drop nk).map Kc.v) (by rfl) (by exact HR8.out) (by rfl) (by exact HKD.out w8 HB8.out) (oneK fun e he => HK.out.ok e (List.mem_of_mem_drop he)) (by rw [HL6.out, HLE.out]; unfold maxLen; omega) (by rw [HL6.out, HLE.out]; omega) (by exact HB8.out.size) ?_
                         intro v9 w9 hr9 hk9 _
                         have HB9 : Hid (Below W.heap.size W w9) := HB8.out.trans hk9.low
                         have HN9 : Hid (NewInts W.heap.size w9 (.slice a8 (ni + qs.length + (ps.length - nj)) c8) (ps.take ni ++ qs ++ ps.drop nj)) := HN8.out.keep hk9 (by decide)
                         have HK9 : Hid (KeysAt w9.heap.size w9 v9 (L.take ni ++ M ++ L.drop nk)) := keys_three hr9 HB9.out HK.out HM.out hl2 HNIK.out
                         obtain ⟨a9, n9, c9, e9⟩ : ∃ a n c, v9 = .slice a n c := HK9.out.form.elim fun a h => h.elim fun c e => ⟨a, _, c, e⟩
                         subst e9
                         clear hr9 hk9)
                      | (refine step_call_new (by rfl) 47 (Go.Proofs.enters_of Try.func47 (by kernel_rfl) rfl) _ _ (by rfl) _ _ (by rfl) (by exact copied HK9.out) ?_
                         rintro va wa ⟨F, hna, hka, hba⟩
                         have HBA : Hid (Below W.heap.size W wa) := HB9.out.trans (hba.mono HB9.out.size)
                         have HNA : Hid (NewInts W.heap.size wa (.slice a8 (ni + qs.length + (ps.length - nj)) c8) (ps.take ni ++ qs ++ ps.drop nj)) := HN9.out.here hba
                         have HFA : Hid (NewKeys W.heap.size wa va F) := hna.mono HB9.out.size
                         have HKA : Hid (keysOf F = keysOf (L.take ni ++ M ++ L.drop nk)) := hka
                         obtain ⟨aa, ca, ea⟩ : ∃ a c, va = .slice a F.length c := (own_cells hna.own (by simp)).form.elim fun a h => h.elim fun c e => ⟨a, c, by rw [List.length_map] at e; exact e⟩
                         subst ea
                         obtain ⟨r0, r1⟩ := (HZ.out.here HBA.out).cells
                         obtain ⟨s0, s1⟩ := (HZ.out.here HBA.out).open
                         clear hna hka hba))
                  all_goals go_wp2_with fail
                  all_goals
                    refine bodyPost_ret (ret_kids2 (u := .int .i64 0) rfl rfl rfl ((HZ.out.here HBA.out).put _ _)) rfl ⟨_, by rw [HE.out]; rfl, ?_, ?_⟩
                    · rw [HD.out, HRK.out]
                      exact repl_end (HZ.out.here HBA.out) (by omega) HBW.out.size HNA.out HFA.out HKA.out
                    · exact (HBW.out.trans (HBA.out.mono HBW.out.size)).trans (keep_two (HZ.out.here HBA.out) (show w.heap.size ≤ w.heap.size + 2 by omega) _ _).low
end Go.Proofs.Ytaehchijeinloaa
