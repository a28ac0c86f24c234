/- BranchStays's walk: what Replace leaves alone. -/
import Derived.Test.YtaehchijeinloabAliveW
import Derived.Test.YtaehchijeinloabPickW
import Derived.Test.YtaehchijeinloabStaysPure
namespace Go.Proofs.Ytaehchijeinloab
open Go.RowKit

theorem repl_lens {d b : Kd} {i j : Nat} : (replK d i j b).ps.length ≤ d.ps.length + b.ps.length + d.ps.length ∧ (replK d i j b).ks.length ≤ d.ks.length + b.ks.length + d.ks.length := by
  simp only [replK, List.length_append, List.length_take, List.length_drop]
  omega
theorem repl_len {d b : Kd} {i j : Nat} (hi : i < j) (hj : j ≤ d.ps.length) : ((replK d i j b).ps.length : Int) = (d.ps.length : Int) - ((j : Int) - (i : Int)) + (b.ps.length : Int) := by
  simp only [replK, List.length_append, List.length_take, List.length_drop]
  omega
theorem repl_fits {d b : Kd} {i j : Nat} {P : Int → Prop} (h1 : ∀ p ∈ d.ps, P p) (h2 : ∀ p ∈ b.ps, P p) : ∀ p ∈ (replK d i j b).ps, P p := fun p hp => by
  simp only [replK] at hp
  rcases List.mem_append.1 hp with h | h
  · rcases List.mem_append.1 h with h | h
    · exact h1 p (List.mem_of_mem_take h)
    · exact h2 p h
  · exact h1 p (List.mem_of_mem_drop h)
theorem replE_ok {d b : Kd} {i j : Nat} (hd : d.fit = true) (hb : b.fit = true) (hi : i < j) (hj : j ≤ d.ps.length) : replE d i j b = 0 := by
  unfold replE; rw [if_pos ⟨hd, hb, by omega, by omega, by omega⟩]
theorem replD_ok {d b : Kd} {i j : Nat} (hd : d.fit = true) (hb : b.fit = true) (hi : i < j) (hj : j ≤ d.ps.length) : replD d i j b = replK d i j b := by
  unfold replD; rw [if_pos (replE_ok hd hb hi hj)]; rfl

theorem own_ints {B : Nat} {w : World} {g o n c : Nat} {ps : List Int} (h : IntsAt B w (.slice (some ⟨g, o, none⟩) n c) ps) (i j : Nat) (hi : i ≤ j) (hj : j ≤ n) (hc : n ≤ c) : IntsAt B w (.slice (some ⟨g, o + i, none⟩) (j - i) (c - i)) ((ps.drop i).take (j - i)) :=
  (h.drop i (by omega)).take (j - i) (by omega) (c - i) (by omega) (Nat.le_refl _)
theorem own_keysAt {B : Nat} {w : World} {g o n c : Nat} {L : List Kc} (h : KeysAt B w (.slice (some ⟨g, o, none⟩) n c) L) (i j : Nat) (hi : i ≤ j) (hj : j ≤ n) (hc : n ≤ c) : KeysAt B w (.slice (if c = i then some ⟨g, o, none⟩ else some ⟨g, o + i, none⟩) (j - i) (c - i)) ((L.drop i).take (j - i)) := by
  by_cases hci : c = i
  · rw [if_pos hci, show j - i = 0 by omega, List.take_zero]
    exact ⟨CellsAt.void _ _ _ _, by simp, fun e he => by simp at he⟩
  · rw [if_neg hci]
    exact (h.drop i (by omega)).take (j - i) (by omega) (c - i) (by omega) (Nat.le_refl _)
theorem keysOf_part (L : List Kc) (i n : Nat) : keysOf ((L.drop i).take n) = ((keysOf L).drop i).take n := by simp [keysOf]

set_option maxHeartbeats 6400000 in
set_option maxRecDepth 100000 in
theorem stays_walk {w : World} {v u vb : Value} {ps qs : List Int} {L M : List Kc} {b : Key} {z i j : Int} (h : KidsAt w.heap.size w v ps L) (hi : (Lit.int .i64 i).wf = true) (hj : (Lit.int .i64 j).wf = true) (hu : KidsAt w.heap.size w u qs M) (hb : KeyAt w vb b) (hm : M.length * 24 ≤ 140737488355328) :
    Calls Try.prog 4 #[.int .i64 z, v, .int .i64 i, .int .i64 j, u, vb] w fun e w' => e = .returned (.bool true) ∧ Below w.heap.size w w' := by
  obtain ⟨vp, vk, rfl, h1, h2⟩ := h.is
  obtain ⟨a1, c1, rfl⟩ := h1.form
  obtain ⟨a2, c2, rfl⟩ := h2.form
  obtain ⟨up, uk, rfl, h3, h4⟩ := hu.is
  obtain ⟨a3, c3, rfl⟩ := h3.form
  obtain ⟨a4, c4, rfl⟩ := h4.form
  have hs1 := h1.short
  have hs2 := h2.short
  have hq := h3.short
  have HFT : Hid (∀ p ∈ ps, -9223372036854775808 ≤ p ∧ p ≤ 9223372036854775807) := h1.fits
  have HFQ : Hid (∀ p ∈ qs, -9223372036854775808 ≤ p ∧ p ≤ 9223372036854775807) := h3.fits
  obtain ⟨ab, cb, rfl⟩ := hb.in.form
  obtain ⟨W, hW⟩ : ∃ W, W = (w.alloc (.cells #[.slice a1 ps.length c1, .slice a2 L.length c2] 25)).alloc (.cells #[.slice a3 qs.length c3, .slice a4 M.length c4] 25) := ⟨_, rfl⟩
  have HBW : Hid (Below w.heap.size w W) := by rw [hW]; exact (below_new w _).alloc (by simp) _
  have HX : Hid (KBox W w.heap.size (.slice a1 ps.length c1) (.slice a2 L.length c2)) := by
    rw [hW]; exact (KBox.new w _ _).here (below_new _ _)
  have HY : Hid (KBox W (w.heap.size + 1) (.slice a3 qs.length c3) (.slice a4 M.length c4)) := by
    rw [hW]
    have := KBox.new (w.alloc (.cells #[.slice a1 ps.length c1, .slice a2 L.length c2] 25)) (.slice a3 qs.length c3) (.slice a4 M.length c4)
    show KBox _ _ _ _
    simpa using this
  have HP : Hid (IntsAt W.heap.size W (.slice a1 ps.length c1) ps) := h1.here HBW.out
  have HK : Hid (KeysAt W.heap.size W (.slice a2 L.length c2) L) := h2.here HBW.out
  have HKI : Hid (∀ W', Below W.heap.size W W' → KidsAt W'.heap.size W' (.agg #[.slice a1 ps.length c1, .slice a2 L.length c2]) ps L) := fun W' hb => (KidsAt.here ⟨_, _, rfl, h1, h2⟩ HBW.out).here hb
  have HKU : Hid (∀ W', Below W.heap.size W W' → KidsAt W'.heap.size W' (.agg #[.slice a3 qs.length c3, .slice a4 M.length c4]) qs M) := fun W' hb => (KidsAt.here ⟨_, _, rfl, h3, h4⟩ HBW.out).here hb
  have HKB : Hid (∀ W', Below W.heap.size W W' → KeyAt W' (.slice ab b.length cb) b) := fun W' h => (hb.here HBW.out).here h
  clear h h1 h2 hb hu h3 h4
  go_enter Try.func4, Try.ntmps4
  go_wp2_with fail
  rw [← hW]
  clear hW
  refine (alive_any W).mono ?_
  rintro e w1 ⟨rfl, hb1⟩
  have HB1 : Hid (Below W.heap.size W w1) := hb1
  have HC := check_any (z := z) (HKI.out w1 hb1)
  obtain ⟨x0, x1⟩ := (HX.out.here hb1).cells
  clear hb1
  go_wp2_with fail
  by_cases hck : checkK z (kd ps L) = 0
  · rw [hck] at HC
    refine HC.mono ?_
    rintro e w2 ⟨rfl, hb2⟩
    have HB2 : Hid (Below W.heap.size W w2) := HB1.out.trans (hb2.mono HB1.out.size)
    obtain ⟨y0, y1⟩ := (HY.out.here HB2.out).cells
    clear hb2 HC x0 x1
    by_cases hq0 : qs.length = 0
    · have hq0z : (qs.length : Int) = 0 := by omega
      clear hq0
      go_wp2
      go_ret
      exact ⟨by first | rfl | simp, HBW.out.trans (HB2.out.mono HBW.out.size)⟩
    · have hqz : ((qs.length : Int) == 0) = false := by rw [beq_eq_false_iff_ne]; omega
      by_cases hml : M.length + 1 = qs.length
      · have hmz : ((M.length : Int) != (qs.length : Int) - 1) = false := by simp; omega
        have hfu : (kd qs M).fit = true := fit_iff.2 ⟨by show 0 < qs.length; omega, by rw [show (kd qs M).ks.length = M.length from keysOf_length M]; exact hml⟩
        obtain ⟨hps, hksl⟩ : ps.length < 1024 ∧ L.length < 1024 := by
          have := check_small hck
          rw [show (kd ps L).ks.length = L.length from keysOf_length L] at this
          exact ⟨this.1, this.2.1⟩
        have hfit := (checkK_ok hck).2.2.1
        have hlL : L.length + 1 = ps.length := by
          have := (fit_iff.1 hfit).2
          rw [show (kd ps L).ks.length = L.length from keysOf_length L] at this
          exact this
        have hp2 : 2 ≤ ps.length := (checkK_ok hck).2.1
        have HP1 := pick_any w2 i ps.length hi (by omega) (by omega)
        have hIl := pickK_lt i ps.length (by omega)
        generalize pickK i ps.length = I at *
        have hN0 : 0 < ps.length - I := by omega
        have HP2 := pick_any w2 j (ps.length - I) hj (by omega) (by omega)
        rw [show ((ps.length - I : Nat) : Int) = (ps.length : Int) - (I : Int) by omega] at HP2
        have hJl := pickK_lt j (ps.length - I) hN0
        generalize pickK j (ps.length - I) = PJ at *
        obtain ⟨J, hJ⟩ : ∃ J, J = I + 1 + PJ := ⟨_, rfl⟩
        have hJz : (I : Int) + 1 + (PJ : Int) = (J : Int) := by omega
        have hIJ : I < J := by omega
        have hJp : J ≤ ps.length := by omega
        have HR := replace_any (i := I) (j := J) (HKI.out w2 HB2.out) (HKU.out w2 HB2.out) (by omega) (by omega)
        rw [replE_ok hfit hfu hIJ hJp, replD_ok hfit hfu hIJ hJp] at HR
        have HLEN : Hid (((replK (kd ps L) I J (kd qs M)).ps.length : Int) = (ps.length : Int) - ((J : Int) - (I : Int)) + (qs.length : Int)) := repl_len hIJ hJp
        have HSL : Hid ((replK (kd ps L) I J (kd qs M)).ps.length * 8 ≤ 140737488355328 ∧ (replK (kd ps L) I J (kd qs M)).ks.length * 24 ≤ 140737488420864) := by
          have := repl_lens (d := kd ps L) (b := kd qs M) (i := I) (j := J)
          rw [show (kd ps L).ks.length = L.length from keysOf_length L, show (kd qs M).ks.length = M.length from keysOf_length M, show (kd ps L).ps = ps from rfl, show (kd qs M).ps = qs from rfl] at this
          exact ⟨by omega, by omega⟩
        have HRF : Hid (∀ p ∈ (replK (kd ps L) I J (kd qs M)).ps, -9223372036854775808 ≤ p ∧ p ≤ 9223372036854775807) := repl_fits HFT.out HFQ.out
        have HCH : Hid (checkK z (replK (kd ps L) I J (kd qs M)) = 0 → _) := fun h => repl_child (k := b) hck hfu hIJ hJp h
        have HSELF : Hid (replK (kd ps L) I J ⟨(ps.drop I).take (J - I), ((kd ps L).ks.drop I).take (J - 1 - I)⟩ = kd ps L) := repl_self (d := kd ps L) hfit hIJ hJp
        generalize replK (kd ps L) I J (kd qs M) = R at *
        obtain ⟨x0, x1⟩ := (HX.out.here HB2.out).cells
        clear hq0 hJ hfu
        go_wp2_with fail
        refine HP1.mono ?_
        rintro e w3 ⟨rfl, hw3⟩
        obtain rfl := hw3.symm
        go_wp2_with fail
        refine HP2.mono ?_
        rintro e w3 ⟨rfl, hw3⟩
        obtain rfl := hw3.symm
        clear HP1 HP2
        go_wp2_with fail
        refine HR.mono ?_
        rintro e w4 ⟨v4, rfl, hn4, hb4⟩
        have HB4 : Hid (Below W.heap.size W w4) := HB2.out.trans (hb4.mono HB2.out.size)
        obtain ⟨L4, hk4, hL4⟩ := hn4.at HSL.out.1 HSL.out.2 HRF.out
        obtain ⟨vp4, vk4, rfl, hp4, hq4⟩ := hk4.is
        obtain ⟨a5, c5, rfl⟩ := hp4.form
        obtain ⟨a6, c6, rfl⟩ := hq4.form
        obtain ⟨W4, hW4⟩ : ∃ W4, W4 = w4.alloc (.cells #[.slice a5 R.ps.length c5, .slice a6 L4.length c6] 25) := ⟨_, rfl⟩
        have hbw4 : Below w4.heap.size w4 W4 := by rw [hW4]; exact below_new _ _
        have HBW4 : Hid (Below W.heap.size W W4) := HB4.out.trans (hbw4.mono HB4.out.size)
        have HX4 : Hid (KBox W4 w4.heap.size (.slice a5 R.ps.length c5) (.slice a6 L4.length c6)) := by rw [hW4]; exact KBox.new _ _ _
        have HKR : Hid (∀ W', Below W4.heap.size W4 W' → KidsAt W'.heap.size W' (.agg #[.slice a5 R.ps.length c5, .slice a6 L4.length c6]) R.ps L4) := fun W' hb => (hk4.here hbw4).here hb
        have HLR : Hid (keysOf L4 = R.ks) := hL4
        obtain ⟨p0, p1⟩ := (HX.out.here HBW4.out).cells
        have HC1 := child_any (HKI.out W4 HBW4.out) (HKB.out W4 HBW4.out)
        clear HR hn4 hk4 hp4 hq4 hb4 hbw4 hL4 x0 x1 y0 y1
        go_upto_region 7 with fail
        rw [← hW4]
        clear hW4
        go_wp2_with fail
        refine HC1.mono ?_
        rintro e w5 ⟨rfl, hb5⟩
        have HB5 : Hid (Below W4.heap.size W4 w5) := hb5
        obtain ⟨q0, q1⟩ := (HX4.out.here hb5).cells
        have HBA : Hid (∀ W', Below W4.heap.size W4 W' → Below W.heap.size W W') := fun W' h => HBW4.out.trans (h.mono HBW4.out.size)
        have HC2 := child_any (HKR.out w5 hb5) (HKB.out w5 (HBA.out w5 hb5))
        rw [HLR.out] at HC2
        clear HC1 hb5 p0 p1
        go_wp2_with fail
        refine HC2.mono ?_
        rintro e w6 ⟨rfl, hb6⟩
        have HB6 : Hid (Below W4.heap.size W4 w6) := HB5.out.trans (hb6.mono HB5.out.size)
        clear HC2 hb6 q0 q1
        obtain ⟨m0, m1⟩ := (HX.out.here (HBA.out w6 HB6.out)).cells
        have hx6 := HX.out.here (HBA.out w6 HB6.out)
        have xa0 : ∀ o, (w6.alloc o).cell? ⟨w.heap.size, 0, none⟩ = some (.slice a1 ps.length c1) := fun o => ((hx6.here (below_new _ _)).cells).1
        have xa1 : ∀ o, (w6.alloc o).cell? ⟨w.heap.size, 1, none⟩ = some (.slice a2 L.length c2) := fun o => ((hx6.here (below_new _ _)).cells).2
        clear hx6
        obtain ⟨g1, o1, e1⟩ : ∃ g off, a1 = some ⟨g, off, none⟩ := by
          obtain ⟨x, hx⟩ : ∃ x, ps[0]? = some x := ⟨ps[0]'(by omega), List.getElem?_eq_getElem _⟩
          obtain ⟨g, off, c, e, _⟩ := HP.out.cell 0 x hx
          cases e
          exact ⟨g, off, rfl⟩
        obtain ⟨g2, o2, e2⟩ : ∃ g off, a2 = some ⟨g, off, none⟩ := by
          obtain ⟨x, hx⟩ : ∃ x, L[0]? = some x := ⟨L[0]'(by omega), List.getElem?_eq_getElem _⟩
          obtain ⟨g, off, c, e, _⟩ := HK.out.cell 0 x hx
          cases e
          exact ⟨g, off, rfl⟩
        subst e1
        subst e2
        have hc1 : ps.length ≤ c1 := by
          obtain ⟨a, c, e, h, _⟩ := HP.out.row.is
          simp only [List.length_map] at e h
          cases e; exact h
        have hc2 : L.length ≤ c2 := by
          obtain ⟨a, c, e, h, _⟩ := HK.out.row.is
          simp only [List.length_map] at e h
          cases e; exact h
        obtain ⟨k, hk⟩ : ∃ k : Nat, J = k + 1 := ⟨J - 1, by omega⟩
        have hkz : (J : Int) - 1 = (k : Int) := by omega
        have hIz : (I : Int) ≤ (J : Int) := by omega
        have hIk : (I : Int) ≤ (k : Int) := by omega
        have hJc : (J : Int) ≤ (c1 : Int) := by omega
        have hkc : (k : Int) ≤ (c2 : Int) := by omega
        have hcI : c1 ≠ I := by omega
        have HIK : Hid (J = k + 1 ∧ I ≤ k ∧ k ≤ L.length ∧ J ≤ ps.length) := ⟨hk, by omega, by omega, hJp⟩
        clear hk
        go_upto_region 9 with fail
        go_region
        obtain ⟨A2, hA2⟩ : ∃ A : Option Addr, A = if c2 = I then some ⟨g2, o2, none⟩ else some ⟨g2, o2 + I, none⟩ := ⟨_, rfl⟩
        rw [← hA2]
        obtain ⟨W7, hW7⟩ : ∃ W7, W7 = (w6.alloc (.cells #[.slice (some ⟨g1, o1 + I, none⟩) (J - I) (c1 - I), .slice A2 (k - I) (c2 - I)] 25)).drew := ⟨_, rfl⟩
        have hbw7 : Below w6.heap.size w6 W7 := by rw [hW7]; exact (below_new _ _).drew
        have HX7 : Hid (KBox W7 w6.heap.size (.slice (some ⟨g1, o1 + I, none⟩) (J - I) (c1 - I)) (.slice A2 (k - I) (c2 - I))) := by rw [hW7]; exact (KBox.new _ _ _).drewb
        have HBW7 : Hid (Below W4.heap.size W4 W7) := HB6.out.trans (hbw7.mono HB6.out.size)
        have HB7 : Hid (Below W.heap.size W W7) := HBA.out W7 HBW7.out
        have hOP : IntsAt W7.heap.size W7 (.slice (some ⟨g1, o1 + I, none⟩) (J - I) (c1 - I)) ((ps.drop I).take (J - I)) := own_ints (HP.out.here HB7.out) I J (by omega) hJp hc1
        have hOK : KeysAt W7.heap.size W7 (.slice A2 (k - I) (c2 - I)) ((L.drop I).take (k - I)) := by rw [hA2]; exact own_keysAt (HK.out.here HB7.out) I k HIK.out.2.1 HIK.out.2.2.1 hc2
        have hlp : ((ps.drop I).take (J - I)).length = J - I := by rw [List.length_take, List.length_drop]; omega
        have hlk : ((L.drop I).take (k - I)).length = k - I := by have := HIK.out; rw [List.length_take, List.length_drop]; omega
        have hof : (kd ((ps.drop I).take (J - I)) ((L.drop I).take (k - I))).fit = true := by
          have := HIK.out
          rw [fit_iff, show (kd ((ps.drop I).take (J - I)) ((L.drop I).take (k - I))).ks.length = _ from keysOf_length _, show (kd ((ps.drop I).take (J - I)) ((L.drop I).take (k - I))).ps.length = _ from hlp, hlk]
          omega
        have HR2 := replace_any (i := I) (j := J) (HKI.out W7 HB7.out) (u := .agg #[.slice (some ⟨g1, o1 + I, none⟩) (J - I) (c1 - I), .slice A2 (k - I) (c2 - I)]) ⟨_, _, rfl, hOP, hOK⟩ (by rw [hlp]; omega) (by rw [hlk]; have := HIK.out; omega)
        rw [replE_ok hfit hof hIJ hJp, replD_ok hfit hof hIJ hJp, show replK (kd ps L) I J (kd ((ps.drop I).take (J - I)) ((L.drop I).take (k - I))) = kd ps L by
          have h1 := HIK.out
          have h2 := HSELF.out
          rw [show J - 1 - I = k - I by omega] at h2
          rw [show kd ((ps.drop I).take (J - I)) ((L.drop I).take (k - I)) = ⟨(ps.drop I).take (J - I), ((kd ps L).ks.drop I).take (k - I)⟩ by unfold kd; rw [keysOf_part]]
          exact h2] at HR2
        obtain ⟨y0, y1⟩ := HX7.out.cells
        obtain ⟨x0, x1⟩ := (HX.out.here HB7.out).cells
        clear hOP hOK hlp hlk hof hbw7 hA2 m0 m1 xa0 xa1 hcI hkz
        go_upto_region 10 with fail
        rw [← hW7]
        clear hW7
        go_wp2_with fail
        refine HR2.mono ?_
        rintro e w8 ⟨v8, rfl, hn8, hb8⟩
        obtain ⟨L8, hk8, hL8⟩ := hn8.at (show ps.length * 8 ≤ _ from hs1) (by show (keysOf L).length * 24 ≤ _; rw [keysOf_length]; exact hs2) HFT.out
        replace hk8 : KidsAt w8.heap.size w8 v8 ps L8 := hk8
        obtain ⟨vp8, vk8, rfl, hp8, hq8⟩ := hk8.is
        obtain ⟨a7, c7, rfl⟩ := hp8.form
        obtain ⟨a8, c8, rfl⟩ := hq8.form
        have HB8 : Hid (Below W4.heap.size W4 w8) := HBW7.out.trans (hb8.mono HBW7.out.size)
        obtain ⟨W8, hW8⟩ : ∃ W8, W8 = w8.alloc (.cells #[.slice a7 ps.length c7, .slice a8 L8.length c8] 25) := ⟨_, rfl⟩
        have hbw8 : Below w8.heap.size w8 W8 := by rw [hW8]; exact below_new _ _
        have HBW8 : Hid (Below W4.heap.size W4 W8) := HB8.out.trans (hbw8.mono HB8.out.size)
        have HX8 : Hid (KBox W8 w8.heap.size (.slice a7 ps.length c7) (.slice a8 L8.length c8)) := by rw [hW8]; exact KBox.new _ _ _
        have HSM := same_any (hk8.here hbw8) (HKI.out W8 (HBA.out W8 HBW8.out))
        rw [show kd ps L8 = kd ps L by rw [kd, hL8]; rfl, decide_eq_true rfl] at HSM
        obtain ⟨p0, p1⟩ := HX8.out.cells
        obtain ⟨q0, q1⟩ := (HX.out.here (HBA.out W8 HBW8.out)).cells
        clear HR2 hn8 hk8 hp8 hq8 hb8 hbw8 hL8 x0 x1 y0 y1
        go_upto_region 11 with fail
        rw [← hW8]
        clear hW8
        go_wp2_with fail
        refine HSM.mono ?_
        rintro e w9 ⟨rfl, hb9⟩
        have HB9 : Hid (Below W4.heap.size W4 w9) := HBW8.out.trans (hb9.mono HBW8.out.size)
        obtain ⟨x0, _⟩ := (HX.out.here (HBA.out w9 HB9.out)).cells
        obtain ⟨y0, _⟩ := (HY.out.here (HBA.out w9 HB9.out)).cells
        obtain ⟨r0, r1⟩ := (HX4.out.here HB9.out).cells
        have hlz : ((R.ps.length : Int) != (ps.length : Int) - ((J : Int) - (I : Int)) + (qs.length : Int)) = false := by rw [HLEN.out]; simp
        have HCR := check_any (z := z) (HKR.out w9 HB9.out)
        rw [show kd R.ps L4 = R by rw [kd, HLR.out]] at HCR
        clear HSM hb9 p0 p1 q0 q1
        go_wp2_with fail
        by_cases hcr : checkK z R = 0
        · rw [hcr] at HCR
          have hch := HCH.out hcr
          rw [show (kd ps L).ks = keysOf L from rfl, show (kd qs M).ps = qs from rfl] at hch
          have HNL : Hid (childK (keysOf L) b ≤ L.length) := by rw [Hid, ← keysOf_length L]; exact childK_le _ _
          generalize childK (keysOf L) b = n at *
          generalize childK R.ks b = m at *
          refine HCR.mono ?_
          rintro e w10 ⟨rfl, hb10⟩
          have HB10 : Hid (Below W4.heap.size W4 w10) := HB9.out.trans (hb10.mono HB9.out.size)
          have HFIN : Hid (Below w.heap.size w w10) := HBW.out.trans ((HBA.out w10 HB10.out).mono HBW.out.size)
          obtain ⟨z0, _⟩ := (HY.out.here (HBA.out w10 HB10.out)).cells
          clear HCR hb10 x0 y0 r0 r1 hlz
          have hnb : n ≤ L.length := HNL.out
          by_cases hn1 : n < I
          · have hn1z : (n : Int) < (I : Int) := by omega
            have hmn : ((m : Int) == (n : Int)) = true := by rw [hch.1 hn1]; simp
            clear hch hn1
            go_wp2
            go_ret
            exact ⟨by first | rfl | simp, HFIN.out⟩
          · have hn1z : ¬ (n : Int) < (I : Int) := by omega
            by_cases hn2 : J ≤ n
            · have hn2z : (J : Int) ≤ (n : Int) := by omega
              have hmn : ((m : Int) == (n : Int) - ((J : Int) - (I : Int)) + (qs.length : Int)) = true := by rw [hch.2.1 hn2]; simp
              clear hch hn1 hn2
              go_wp2
              go_ret
              exact ⟨by first | rfl | simp, HFIN.out⟩
            · have hn2z : ¬ (J : Int) ≤ (n : Int) := by omega
              obtain ⟨hm1, hm2⟩ := hch.2.2 (by omega) (by omega)
              have hm1z : (I : Int) ≤ (m : Int) := by omega
              have hm2z : (m : Int) < (I : Int) + (qs.length : Int) := by omega
              clear hch hn1 hn2 hm1 hm2
              go_wp2
              go_ret
              exact ⟨by first | rfl | simp, HFIN.out⟩
        · have hcrz : ((checkK z R : Int) == 0) = false := by rw [beq_eq_false_iff_ne]; omega
          generalize checkK z R = C at *
          refine HCR.mono ?_
          rintro e w10 ⟨rfl, hb10⟩
          have HB10 : Hid (Below W4.heap.size W4 w10) := HB9.out.trans (hb10.mono HB9.out.size)
          have HFIN : Hid (Below w.heap.size w w10) := HBW.out.trans ((HBA.out w10 HB10.out).mono HBW.out.size)
          clear HCR hb10 x0 y0 r0 r1 hlz
          go_wp2
          go_ret
          exact ⟨by first | rfl | simp, HFIN.out⟩
      · have hmz : ((M.length : Int) != (qs.length : Int) - 1) = true := by simp; omega
        clear hq0 hml
        go_wp2
        go_ret
        exact ⟨by first | rfl | simp, HBW.out.trans (HB2.out.mono HBW.out.size)⟩
  · have hcz : ((checkK z (kd ps L) : Int) != 0) = true := by simp; omega
    generalize checkK z (kd ps L) = C at *
    refine HC.mono ?_
    rintro e w2 ⟨rfl, hb2⟩
    have HB2 : Hid (Below W.heap.size W w2) := HB1.out.trans (hb2.mono HB1.out.size)
    clear hb2 HC x0 x1
    go_wp2
    go_ret
    exact ⟨by first | rfl | simp, HBW.out.trans (HB2.out.mono HBW.out.size)⟩
end Go.Proofs.Ytaehchijeinloab
