/- BranchParts's walk (under way): what Split's parts are. -/
import Derived.Test.YtaehchijeinloabAlive
import Derived.Test.YtaehchijeinloabPick
import Derived.Test.YtaehchijeinloabParts
namespace Go.Proofs.Ytaehchijeinloab
open Go.RowKit

theorem key_block1 {w : World} {g : Nat} {e : Kc} (h : w.heap[g]? = some (.cells #[e.v] 26 (0, 0))) (hk : KeyIn w.heap.size w e.v e.k) : KeysAt w.heap.size w (.slice (some ⟨g, 0, none⟩) 1 1) [e] := by
  refine ⟨⟨_, _, rfl, Nat.le_refl _, fun h => (by cases h), fun j u hj => ⟨_, 0, rfl, (Array.getElem?_eq_some_iff.1 h).1, ?_⟩⟩, by simp, fun x hx => ?_⟩
  · rw [Nat.zero_add, row_cell h]
    simpa using hj
  · simp at hx
    subst hx
    exact hk
theorem lit_repl (e : Kc) : replE (kd [1] []) 0 1 (kd [2, 3] [e]) = 0 ∧ replD (kd [1] []) 0 1 (kd [2, 3] [e]) = ⟨[2, 3], [e.k]⟩ := by
  have h : replE (kd [1] []) 0 1 (kd [2, 3] [e]) = 0 := by unfold replE; rw [if_pos ⟨rfl, rfl, by decide, by decide, by decide⟩]
  exact ⟨h, by unfold replD; rw [if_pos h]; rfl⟩

set_option maxHeartbeats 6400000 in
set_option maxRecDepth 100000 in
theorem parts_walk {w : World} {v : Value} {ps : List Int} {L : List Kc} {z o : Int} (h : KidsAt w.heap.size w v ps L) (ho : (Lit.int .i64 o).wf = true) :
    Calls Try.prog 5 #[.int .i64 z, v, .int .i64 o] w fun e w' => e = .returned (.bool true) ∧ Below w.heap.size w w' := by
  obtain ⟨vp, vk, rfl, h1, h2⟩ := h.is
  obtain ⟨a1, c1, rfl⟩ := h1.form
  obtain ⟨a2, c2, rfl⟩ := h2.form
  have hs1 := h1.short
  have hs2 := h2.short
  obtain ⟨W, hW⟩ : ∃ W, W = w.alloc (.cells #[.slice a1 ps.length c1, .slice a2 L.length c2] 25) := ⟨_, rfl⟩
  have HBW : Hid (Below w.heap.size w W) := by rw [hW]; exact below_new _ _
  have HX : Hid (KBox W w.heap.size (.slice a1 ps.length c1) (.slice a2 L.length c2)) := by rw [hW]; exact KBox.new _ _ _
  have HKI : Hid (∀ W', Below W.heap.size W W' → KidsAt W'.heap.size W' (.agg #[.slice a1 ps.length c1, .slice a2 L.length c2]) ps L) := fun W' hb => (KidsAt.here ⟨_, _, rfl, h1, h2⟩ HBW.out).here hb
  clear h h1 h2
  go_enter Try.func5, Try.ntmps5
  go_wp2_with fail
  rw [← hW]
  clear hW
  refine (alive_any W).mono ?_
  rintro e w1 ⟨rfl, hb1⟩
  have HB1 : Hid (Below W.heap.size W w1) := hb1
  have HS := split_any (z := z) (HKI.out w1 hb1)
  obtain ⟨x0, x1⟩ := (HX.out.here hb1).cells
  clear hb1
  go_wp2_with fail
  by_cases hE : (splitK wrap64 z (kd ps L)).2 = 0
  · obtain ⟨hsz, hfit, hl4, hN2, hNl, hlong, hleast⟩ := splitK_ok hE
    rw [hE] at HS
    generalize hNN : (splitK wrap64 z (kd ps L)).1 = N at *
    clear hNN
    have hlL : L.length + 1 = ps.length := by
      have := (fit_iff.1 hfit).2
      rw [show (kd ps L).ks.length = L.length from keysOf_length L] at this
      exact this
    replace hNl : N + 2 ≤ ps.length := hNl
    have HLG : Hid (longK wrap64 (kd ps L) N ≤ z - 32) := hlong
    have HLE : Hid _ := hleast
    refine HS.mono ?_
    rintro e w2 ⟨rfl, hb2⟩
    have HB2 : Hid (Below W.heap.size W w2) := HB1.out.trans (hb2.mono HB1.out.size)
    have HP := parts_any (n := N) (HKI.out w2 HB2.out) (by omega) (by omega) hlL
    obtain ⟨y0, y1⟩ := (HX.out.here HB2.out).cells
    have hz1 : ¬ (N : Int) < 2 := by omega
    have hz2 : ¬ (ps.length : Int) < (N : Int) + 2 := by omega
    clear HS hb2 x0 x1 hlong hleast
    go_upto_region 7 with fail
    go_wp2_with fail
    refine HP.mono ?_
    rintro e w3 ⟨va, vb, e0, rfl, he0, hka, hkb, hb3⟩
    have HB3 : Hid (Below W.heap.size W w3) := HB2.out.trans (hb3.mono HB2.out.size)
    obtain ⟨k, hk⟩ : ∃ k, N = k + 1 := ⟨N - 1, by omega⟩
    have hk1 : N - 1 = k := by omega
    rw [hk1] at hka he0
    obtain ⟨va1, va2, rfl, hp1, hq1⟩ := hka.is
    obtain ⟨a3, c3, e3⟩ : ∃ a c, va1 = .slice a N c := by obtain ⟨a, c, e⟩ := hp1.form; exact ⟨a, c, by rw [e, List.length_take, Nat.min_eq_left (by omega)]⟩
    obtain ⟨a4, c4, e4⟩ : ∃ a c, va2 = .slice a k c := by obtain ⟨a, c, e⟩ := hq1.form; exact ⟨a, c, by rw [e, List.length_take, Nat.min_eq_left (by omega)]⟩
    subst e3
    subst e4
    obtain ⟨vb1, vb2, rfl, hp2, hq2⟩ := hkb.is
    obtain ⟨a5, c5, e5⟩ : ∃ a c, vb1 = .slice a (ps.length - N) c := by obtain ⟨a, c, e⟩ := hp2.form; exact ⟨a, c, by rw [e, List.length_drop]⟩
    obtain ⟨a6, c6, e6⟩ : ∃ a c, vb2 = .slice a (L.length - N) c := by obtain ⟨a, c, e⟩ := hq2.form; exact ⟨a, c, by rw [e, List.length_drop]⟩
    subst e5
    subst e6
    have hin : KeyIn w3.heap.size w3 e0.v e0.k := by
      obtain ⟨_, _, _, _, hq⟩ := (HKI.out w3 HB3.out).is
      exact hq.ok e0 (List.mem_of_getElem? he0)
    obtain ⟨b0, d0, p0⟩ := hin.form
    have HE0 : Hid (L[k]? = some e0 ∧ e0.v = .slice b0 e0.k.length d0) := ⟨he0, p0⟩
    rw [p0]
    obtain ⟨W3, hW3⟩ : ∃ W3, W3 = (w3.alloc (.cells #[.slice a3 N c3, .slice a4 k c4] 25)).alloc (.cells #[.slice a5 (ps.length - N) c5, .slice a6 (L.length - N) c6] 25) := ⟨_, rfl⟩
    have hbw3 : Below w3.heap.size w3 W3 := by rw [hW3]; exact (below_new _ _).alloc (by simp) _
    have HBW3 : Hid (Below W.heap.size W W3) := HB3.out.trans (hbw3.mono HB3.out.size)
    have HA3 : Hid (KBox W3 w3.heap.size (.slice a3 N c3) (.slice a4 k c4)) := by rw [hW3]; exact (KBox.new _ _ _).here (below_new _ _)
    have HC3 : Hid (KBox W3 (w3.heap.size + 1) (.slice a5 (ps.length - N) c5) (.slice a6 (L.length - N) c6)) := by
      rw [hW3]
      have := KBox.new (w3.alloc (.cells #[.slice a3 N c3, .slice a4 k c4] 25)) (.slice a5 (ps.length - N) c5) (.slice a6 (L.length - N) c6)
      show KBox _ _ _ _
      simpa using this
    have HKA : Hid (∀ W', Below W3.heap.size W3 W' → KidsAt W'.heap.size W' (.agg #[.slice a3 N c3, .slice a4 k c4]) (ps.take N) (L.take k)) := fun W' hb => (hka.here hbw3).here hb
    have HKC : Hid (∀ W', Below W3.heap.size W3 W' → KidsAt W'.heap.size W' (.agg #[.slice a5 (ps.length - N) c5, .slice a6 (L.length - N) c6]) (ps.drop N) (L.drop N)) := fun W' hb => (hkb.here hbw3).here hb
    have HIN : Hid (∀ W', Below W3.heap.size W3 W' → KeyIn W'.heap.size W' e0.v e0.k) := fun W' hb => ((hin.below hbw3).mono hbw3.size).below hb |>.mono hb.size
    have HNK : Hid (N = k + 1) := hk
    clear hk hk1 hin HP hka hkb hp1 hq1 hp2 hq2 hb3 hbw3 he0 p0 y0 y1 hz1 hz2
    go_upto_region 8 with fail
    rw [← hW3]
    clear hW3
    go_wp2_with fail
    obtain ⟨W4, hW4⟩ : ∃ W4, W4 = ((W3.alloc (.cells #[.int .i64 1] 3)).alloc (.cells #[.int .i64 2, .int .i64 3] 3)).alloc (.cells #[.slice b0 e0.k.length d0] 26) := ⟨_, rfl⟩
    have hb34 : Below W3.heap.size W3 W4 := by rw [hW4]; exact ((below_new _ _).alloc (by simp) _).alloc (by simp; omega) _
    have r1 : W4.heap[W3.heap.size]? = some (.cells #[.int .i64 1] 3 (0, 0)) := by
      rw [hW4]
      have h1 := heap_alloc_last W3 (.cells #[.int .i64 1] 3)
      rw [(below_new ((W3.alloc (.cells #[.int .i64 1] 3)).alloc (.cells #[.int .i64 2, .int .i64 3] 3)) _).block _ (by simp; omega), (below_new (W3.alloc (.cells #[.int .i64 1] 3)) _).block _ (by simp)]
      exact h1
    have r2 : W4.heap[W3.heap.size + 1]? = some (.cells #[.int .i64 2, .int .i64 3] 3 (0, 0)) := by
      rw [hW4, (below_new ((W3.alloc (.cells #[.int .i64 1] 3)).alloc (.cells #[.int .i64 2, .int .i64 3] 3)) _).block _ (by simp)]
      exact alloc_two _ _ _
    have r3 : W4.heap[W3.heap.size + 1 + 1]? = some (.cells #[.slice b0 e0.k.length d0] 26 (0, 0)) := by
      rw [hW4]
      have h1 := heap_alloc_last ((W3.alloc (.cells #[.int .i64 1] 3)).alloc (.cells #[.int .i64 2, .int .i64 3] 3)) (.cells #[.slice b0 e0.k.length d0] 26)
      simpa using h1
    have HRP := replace_any (i := 0) (j := 1) (w := W4) (v := .agg #[.slice (some ⟨W3.heap.size, 0, none⟩) 1 1, .slice none 0 0]) (u := .agg #[.slice (some ⟨W3.heap.size + 1, 0, none⟩) 2 2, .slice (some ⟨W3.heap.size + 1 + 1, 0, none⟩) 1 1]) (ps := [1]) (L := []) (qs := [2, 3]) (M := [e0])
      ⟨_, _, rfl, ints_block r1 rfl rfl (by decide) (by decide), KeysAt.nil _ _⟩ ⟨_, _, rfl, ints_block r2 rfl rfl (by decide) (by decide), key_block1 (by rw [HE0.out.2]; exact r3) (HIN.out W4 hb34)⟩ (by decide) (by simp)
    rw [(lit_repl e0).1, (lit_repl e0).2] at HRP
    have HBW4 : Hid (Below W3.heap.size W3 W4) := hb34
    rw [← hW4]
    clear hW4 hb34 r1 r2 r3
    refine HRP.mono ?_
    rintro e w5 ⟨v5, rfl, hn5, hb5⟩
    obtain ⟨L5, hk5, hL5⟩ := hn5.at (by simp) (by simp) (show ∀ p ∈ ([2, 3] : List Int), -9223372036854775808 ≤ p ∧ p ≤ 9223372036854775807 by decide)
    obtain ⟨e5, rfl⟩ : ∃ e5, L5 = [e5] := by
      have := congrArg List.length hL5
      rw [keysOf_length] at this
      match L5, this with
      | [x], _ => exact ⟨x, rfl⟩
    obtain ⟨v51, v52, rfl, hp5, hq5⟩ := hk5.is
    obtain ⟨a7, c7, rfl⟩ := hp5.form
    obtain ⟨a8, c8, rfl⟩ := hq5.form
    have HE5 : Hid (e5.k = e0.k) := by have : [e5.k] = [e0.k] := hL5; rw [Hid]; simpa using this
    obtain ⟨W5, hW5⟩ : ∃ W5, W5 = w5.alloc (.cells #[.slice a7 2 c7, .slice a8 1 c8] 25) := ⟨_, rfl⟩
    have hbw5 : Below w5.heap.size w5 W5 := by rw [hW5]; exact below_new _ _
    have HB5 : Hid (Below W3.heap.size W3 W5) := (HBW4.out.trans (hb5.mono HBW4.out.size)).trans (hbw5.mono (HBW4.out.trans (hb5.mono HBW4.out.size)).size)
    have HX5 : Hid (KBox W5 w5.heap.size (.slice a7 2 c7) (.slice a8 1 c8)) := by rw [hW5]; exact KBox.new _ _ _
    have HQ5 : Hid (∀ W', Below W5.heap.size W5 W' → KeysAt W'.heap.size W' (.slice a8 1 c8) [e5]) := fun W' hb => (hq5.here hbw5).here hb
    clear HRP hn5 hk5 hL5 hp5 hq5 hb5 hbw5
    go_upto_region 9 with fail
    rw [← hW5]
    clear hW5
    obtain ⟨LG, hLG⟩ : ∃ LG, LG = longK wrap64 (kd ps L) N := ⟨_, rfl⟩
    obtain ⟨FA, hFA⟩ : ∃ FA, FA = wrap64 (bytesK (firstK (kd ps L) N)) := ⟨_, rfl⟩
    obtain ⟨FC, hFC⟩ : ∃ FC, FC = wrap64 (bytesK (othersK (kd ps L) N)) := ⟨_, rfl⟩
    have hmx : max FA FC = LG := by rw [hLG, hFA, hFC, longK]
    have hmx' : max FC FA = LG := by rw [← hmx, Int.max_comm]
    have HBA : Hid (∀ W', Below W5.heap.size W5 W' → Calls Try.prog 18 #[.agg #[.slice a3 N c3, .slice a4 k c4]] W' fun r w' => r = .returned (.int .i64 FA) ∧ Below W5.heap.size W5 w') := fun W' hb => by
      have := bytes_any (HKA.out W' (HB5.out.trans (hb.mono HB5.out.size)))
      rw [show kd (ps.take N) (L.take k) = firstK (kd ps L) N by rw [HNK.out]; simp [kd, firstK, keysOf], ← hFA] at this
      exact this.mono fun r w' ⟨h1, h2⟩ => ⟨h1, hb.trans (h2.mono hb.size)⟩
    have HBC : Hid (∀ W', Below W5.heap.size W5 W' → Calls Try.prog 18 #[.agg #[.slice a5 (ps.length - N) c5, .slice a6 (L.length - N) c6]] W' fun r w' => r = .returned (.int .i64 FC) ∧ Below W5.heap.size W5 w') := fun W' hb => by
      have := bytes_any (HKC.out W' (HB5.out.trans (hb.mono HB5.out.size)))
      rw [show kd (ps.drop N) (L.drop N) = othersK (kd ps L) N by simp [kd, othersK, keysOf], ← hFC] at this
      exact this.mono fun r w' ⟨h1, h2⟩ => ⟨h1, hb.trans (h2.mono hb.size)⟩
    have HCL : Hid (∀ W', Below W5.heap.size W5 W' → (W'.cell? ⟨w3.heap.size, 0, none⟩ = some (.slice a3 N c3) ∧ W'.cell? ⟨w3.heap.size, 1, none⟩ = some (.slice a4 k c4)) ∧ (W'.cell? ⟨w3.heap.size + 1, 0, none⟩ = some (.slice a5 (ps.length - N) c5) ∧ W'.cell? ⟨w3.heap.size + 1, 1, none⟩ = some (.slice a6 (L.length - N) c6))) := fun W' hb =>
      ⟨(HA3.out.here (HB5.out.trans (hb.mono HB5.out.size))).cells, (HC3.out.here (HB5.out.trans (hb.mono HB5.out.size))).cells⟩
    have HLGE : Hid (LG = longK wrap64 (kd ps L) N) := hLG
    obtain ⟨⟨x0, x1⟩, y0, y1⟩ := HCL.out W5 (Below.refl _ _)
    clear hLG hFA hFC
    go_cut [15] (fun s15 wx => s15 = .int .i64 LG ∧ Below W5.heap.size W5 wx)
    case first =>
      go_region_with (first
        | (go_at_call_of 18 (Value.agg #[.slice a3 N c3, .slice a4 k c4])
           refine (HBA.out _ (by first | exact (Below.refl _ _).drew | exact Below.refl _ _ | exact HBD.out | exact HBD.out.drew)).mono ?_
           rintro e w6 ⟨rfl, hb6⟩
           have HBD : Hid (Below W5.heap.size W5 w6) := hb6
           obtain ⟨⟨p0, p1⟩, q0, q1⟩ := HCL.out w6 hb6
           clear hb6)
        | (go_at_call 18
           refine (HBC.out _ (by first | exact (Below.refl _ _).drew | exact Below.refl _ _ | exact HBD.out | exact HBD.out.drew)).mono ?_
           rintro e w7 ⟨rfl, hb7⟩
           have HBD : Hid (Below W5.heap.size W5 w7) := hb7
           obtain ⟨⟨p0, p1⟩, q0, q1⟩ := HCL.out w7 hb7
           clear hb7))
      all_goals
        go_wp2_with fail
        go_meet
        first
          | exact ⟨rfl, HBD.out⟩
          | exact ⟨by rw [hmx], HBD.out⟩
    case rest =>
      obtain ⟨rfl, hb8⟩ := hcut
      have HB8 : Hid (Below W.heap.size W wc) := (HBW3.out.trans (HB5.out.mono HBW3.out.size)).trans (hb8.mono (Nat.le_trans HBW3.out.size HB5.out.size))
      have HB58 : Hid (Below W5.heap.size W5 wc) := hb8
      have hn4 : 4 ≤ ps.length := hl4
      have hpn : ((ps.length : Int) - 3) = ((ps.length - 3 : Nat) : Int) := by omega
      have HPK := pick_any wc o (ps.length - 3) ho (by omega) (by omega)
      rw [← hpn] at HPK
      have hplt := pickK_lt o (ps.length - 3) (by omega)
      generalize pickK o (ps.length - 3) = q at *
      obtain ⟨z0, z1⟩ := (HX.out.here HB8.out).cells
      clear hb8 hpn x0 x1 y0 y1
      go_upto_region 11 with (go_at_call 13; refine HPK.mono ?_; rintro e w9 ⟨rfl, hw9⟩; obtain rfl := hw9.symm)
      obtain ⟨m, hm⟩ : ∃ m : Nat, m = 2 + q := ⟨_, rfl⟩
      have hmz : (2 : Int) + (q : Int) = (m : Int) := by omega
      have hm2 : 2 ≤ m := by omega
      have hmN : m + 2 ≤ ps.length := by omega
      have HPP := parts_any (n := m) (HKI.out wc HB8.out) (by omega) (by omega) hlL
      rw [hmz]
      clear hmz hm hplt HPK
      go_wp2_with fail
      refine HPP.mono ?_
      rintro e w10 ⟨va, vb, e6, rfl, he6, hka, hkb, hb10⟩
      have HB10 : Hid (Below W.heap.size W w10) := HB8.out.trans (hb10.mono HB8.out.size)
      have HB510 : Hid (Below W5.heap.size W5 w10) := HB58.out.trans (hb10.mono HB58.out.size)
      obtain ⟨k2, hk2⟩ : ∃ k2, m = k2 + 1 := ⟨m - 1, by omega⟩
      have hk21 : m - 1 = k2 := by omega
      rw [hk21] at hka he6
      obtain ⟨va1, va2, rfl, hp1, hq1⟩ := hka.is
      obtain ⟨a9, c9, e3⟩ : ∃ a c, va1 = .slice a m c := by obtain ⟨a, c, e⟩ := hp1.form; exact ⟨a, c, by rw [e, List.length_take, Nat.min_eq_left (by omega)]⟩
      obtain ⟨a10, c10, e4⟩ : ∃ a c, va2 = .slice a k2 c := by obtain ⟨a, c, e⟩ := hq1.form; exact ⟨a, c, by rw [e, List.length_take, Nat.min_eq_left (by omega)]⟩
      subst e3
      subst e4
      obtain ⟨vb1, vb2, rfl, hp2, hq2⟩ := hkb.is
      obtain ⟨a11, c11, e7⟩ : ∃ a c, vb1 = .slice a (ps.length - m) c := by obtain ⟨a, c, e⟩ := hp2.form; exact ⟨a, c, by rw [e, List.length_drop]⟩
      obtain ⟨a12, c12, e8⟩ : ∃ a c, vb2 = .slice a (L.length - m) c := by obtain ⟨a, c, e⟩ := hq2.form; exact ⟨a, c, by rw [e, List.length_drop]⟩
      subst e7
      subst e8
      have hin6 : KeyIn w10.heap.size w10 e6.v e6.k := by
        obtain ⟨_, _, _, _, hq⟩ := (HKI.out w10 HB10.out).is
        exact hq.ok e6 (List.mem_of_getElem? he6)
      obtain ⟨b6, d6, p6⟩ := hin6.form
      rw [p6]
      obtain ⟨W6, hW6⟩ : ∃ W6, W6 = (w10.alloc (.cells #[.slice a9 m c9, .slice a10 k2 c10] 25)).alloc (.cells #[.slice a11 (ps.length - m) c11, .slice a12 (L.length - m) c12] 25) := ⟨_, rfl⟩
      have hbw6 : Below w10.heap.size w10 W6 := by rw [hW6]; exact (below_new _ _).alloc (by simp) _
      have HBW6 : Hid (Below W.heap.size W W6) := HB10.out.trans (hbw6.mono HB10.out.size)
      have HB56 : Hid (Below W5.heap.size W5 W6) := HB510.out.trans (hbw6.mono HB510.out.size)
      have HA6 : Hid (KBox W6 w10.heap.size (.slice a9 m c9) (.slice a10 k2 c10)) := by rw [hW6]; exact (KBox.new _ _ _).here (below_new _ _)
      have HC6 : Hid (KBox W6 (w10.heap.size + 1) (.slice a11 (ps.length - m) c11) (.slice a12 (L.length - m) c12)) := by
        rw [hW6]
        have := KBox.new (w10.alloc (.cells #[.slice a9 m c9, .slice a10 k2 c10] 25)) (.slice a11 (ps.length - m) c11) (.slice a12 (L.length - m) c12)
        show KBox _ _ _ _
        simpa using this
      have HKA6 : Hid (∀ W', Below W6.heap.size W6 W' → KidsAt W'.heap.size W' (.agg #[.slice a9 m c9, .slice a10 k2 c10]) (ps.take m) (L.take k2)) := fun W' hb => (hka.here hbw6).here hb
      have HKC6 : Hid (∀ W', Below W6.heap.size W6 W' → KidsAt W'.heap.size W' (.agg #[.slice a11 (ps.length - m) c11, .slice a12 (L.length - m) c12]) (ps.drop m) (L.drop m)) := fun W' hb => (hkb.here hbw6).here hb
      have HMK : Hid (m = k2 + 1) := hk2
      clear hk2 hk21 hin6 HPP hka hkb hp1 hq1 hp2 hq2 hb10 hbw6 he6 p6 z0 z1
      go_upto_region 12 with fail
      rw [← hW6]
      clear hW6
      obtain ⟨MO, hMO⟩ : ∃ MO, MO = longK wrap64 (kd ps L) m := ⟨_, rfl⟩
      obtain ⟨GA, hGA⟩ : ∃ GA, GA = wrap64 (bytesK (firstK (kd ps L) m)) := ⟨_, rfl⟩
      obtain ⟨GC, hGC⟩ : ∃ GC, GC = wrap64 (bytesK (othersK (kd ps L) m)) := ⟨_, rfl⟩
      have hmy : max GA GC = MO := by rw [hMO, hGA, hGC, longK]
      have HBA6 : Hid (∀ W', Below W6.heap.size W6 W' → Calls Try.prog 18 #[.agg #[.slice a9 m c9, .slice a10 k2 c10]] W' fun r w' => r = .returned (.int .i64 GA) ∧ Below W6.heap.size W6 w') := fun W' hb => by
        have := bytes_any (HKA6.out W' hb)
        rw [show kd (ps.take m) (L.take k2) = firstK (kd ps L) m by rw [HMK.out]; simp [kd, firstK, keysOf], ← hGA] at this
        exact this.mono fun r w' ⟨h1, h2⟩ => ⟨h1, hb.trans (h2.mono hb.size)⟩
      have HBC6 : Hid (∀ W', Below W6.heap.size W6 W' → Calls Try.prog 18 #[.agg #[.slice a11 (ps.length - m) c11, .slice a12 (L.length - m) c12]] W' fun r w' => r = .returned (.int .i64 GC) ∧ Below W6.heap.size W6 w') := fun W' hb => by
        have := bytes_any (HKC6.out W' hb)
        rw [show kd (ps.drop m) (L.drop m) = othersK (kd ps L) m by simp [kd, othersK, keysOf], ← hGC] at this
        exact this.mono fun r w' ⟨h1, h2⟩ => ⟨h1, hb.trans (h2.mono hb.size)⟩
      have HCL6 : Hid (∀ W', Below W6.heap.size W6 W' → (W'.cell? ⟨w10.heap.size, 0, none⟩ = some (.slice a9 m c9) ∧ W'.cell? ⟨w10.heap.size, 1, none⟩ = some (.slice a10 k2 c10)) ∧ (W'.cell? ⟨w10.heap.size + 1, 0, none⟩ = some (.slice a11 (ps.length - m) c11) ∧ W'.cell? ⟨w10.heap.size + 1, 1, none⟩ = some (.slice a12 (L.length - m) c12))) := fun W' hb =>
        ⟨(HA6.out.here hb).cells, (HC6.out.here hb).cells⟩
      have HMOE : Hid (MO = longK wrap64 (kd ps L) m) := hMO
      obtain ⟨⟨x0, x1⟩, y0, y1⟩ := HCL6.out W6 (Below.refl _ _)
      clear hMO hGA hGC hmx hmx'
      go_cut [20] (fun s20 wx => s20 = .int .i64 MO ∧ Below W6.heap.size W6 wx)
      case first =>
        go_region_with (first
          | (go_at_call_of 18 (Value.agg #[.slice a9 m c9, .slice a10 k2 c10])
             refine (HBA6.out _ (by first | exact (Below.refl _ _).drew | exact Below.refl _ _ | exact HBD.out | exact HBD.out.drew)).mono ?_
             rintro e w6 ⟨rfl, hb6⟩
             have HBD : Hid (Below W6.heap.size W6 w6) := hb6
             obtain ⟨⟨p0, p1⟩, q0, q1⟩ := HCL6.out w6 hb6
             clear hb6)
          | (go_at_call 18
             refine (HBC6.out _ (by first | exact (Below.refl _ _).drew | exact Below.refl _ _ | exact HBD.out | exact HBD.out.drew)).mono ?_
             rintro e w7 ⟨rfl, hb7⟩
             have HBD : Hid (Below W6.heap.size W6 w7) := hb7
             obtain ⟨⟨p0, p1⟩, q0, q1⟩ := HCL6.out w7 hb7
             clear hb7))
        all_goals
          go_wp2_with fail
          go_meet
          first
            | exact ⟨rfl, HBD.out⟩
            | exact ⟨by rw [hmy], HBD.out⟩
      case rest =>
        obtain ⟨rfl, hb11⟩ := hcut
        obtain ⟨w11, hw11⟩ : ∃ w11, w11 = wc := ⟨_, rfl⟩
        rw [← hw11] at hb11 ⊢
        clear hw11
        have HB611 : Hid (Below W6.heap.size W6 w11) := hb11
        have HB11 : Hid (Below W.heap.size W w11) := HBW6.out.trans (hb11.mono HBW6.out.size)
        have HB511 : Hid (Below W5.heap.size W5 w11) := HB56.out.trans (hb11.mono HB56.out.size)
        obtain ⟨hle1, hle2⟩ := HLE.out m hm2 hmN
        have g1 : ¬ z - 32 < LG := by rw [HLGE.out]; have := HLG.out; omega
        have g2 : ¬ MO < LG := by rw [HLGE.out, HMOE.out]; omega
        have g3 : MO = LG → ¬ (m : Int) < (N : Int) := by rw [HLGE.out, HMOE.out]; intro h; have := hle2 h; omega
        have hzb := sized_le hsz
        have hq11 := HQ5.out w11 HB511.out
        obtain ⟨g8, o8, _, e1, hcell8⟩ := hq11.cell 0 e5 rfl
        cases e1
        have hok5 := hq11.ok e5 (List.mem_singleton.2 rfl)
        obtain ⟨b5, d5, f5⟩ := hok5.form
        rw [f5, Nat.add_zero] at hcell8
        have v1 : ∀ q, Sem.run Try.prog (convert 26 9 (.slice b5 e5.k.length d5)) (w11.drewN q) = .ok (.string (strB e0.k)) (w11.drewN q) := fun q => by
          have := conv_key ((hok5.at (Nat.le_refl _)).draws q)
          rw [f5, HE5.out] at this
          rw [HE5.out]
          exact this
        have HI0 : Hid (KeyIn w11.heap.size w11 e0.v e0.k) := HIN.out w11 ((HB5.out).trans (HB511.out.mono HB5.out.size))
        have v2 : ∀ q, Sem.run Try.prog (convert 26 9 (.slice b0 e0.k.length d0)) (w11.drewN q) = .ok (.string (strB e0.k)) (w11.drewN q) := fun q => by
          have := conv_key ((HI0.out.at (Nat.le_refl _)).draws q)
          rw [HE0.out.2] at this
          exact this
        obtain ⟨x5, x6⟩ := (HX5.out.here HB511.out).cells
        have s1 : ((strB e0.k).toList != (strB e0.k).toList) = false := by simp
        generalize strB e0.k = S1 at v1 v2 s1
        clear hq11 hok5 f5 hle1 hle2 hb11 x0 x1 y0 y1
        have HDONE : Hid (∀ W', Below W6.heap.size W6 W' → Below w.heap.size w W') := fun W' hb => (HBW.out.trans (HBW6.out.mono HBW.out.size)).trans (hb.mono (Nat.le_trans HBW.out.size HBW6.out.size))
        have g1d : decide (z - 32 < LG) = false := decide_eq_false g1
        have g2d : decide (MO < LG) = false := decide_eq_false g2
        by_cases hmo : MO = LG
        · have g4 : (MO == LG) = true := by simp [hmo]
          have g5 := g3 hmo
          have g5d : decide ((m : Int) < (N : Int)) = false := decide_eq_false g5
          clear g3 hmo
          go_wp2_with fail
          go_quiet (fail)
          obtain ⟨w12, hw12⟩ : ∃ w12, w12 = w11.drewN nq := ⟨_, rfl⟩
          rw [← hw12]
          have HB612 : Hid (Below W6.heap.size W6 w12) := by rw [hw12]; exact below_draws HB611.out _
          clear hw12 v1 v2 s1 hcell8 x5 x6
          have HB12 : Hid (Below W.heap.size W w12) := HBW6.out.trans (HB612.out.mono HBW6.out.size)
          have HB512 : Hid (Below W5.heap.size W5 w12) := HB56.out.trans (HB612.out.mono HB56.out.size)
          obtain ⟨x7, x8⟩ := (HX.out.here HB12.out).cells
          go_wp2_with fail
          refine (check_any (z := z) (HKI.out w12 HB12.out)).mono ?_
          rintro e w13 ⟨rfl, hb13⟩
          have HB613 : Hid (Below W6.heap.size W6 w13) := HB612.out.trans (hb13.mono HB612.out.size)
          have HB313 : Hid (Below W3.heap.size W3 w13) := HB5.out.trans ((HB512.out.trans (hb13.mono HB512.out.size)).mono HB5.out.size)
          clear hb13 x7 x8
          by_cases hck : checkK z (kd ps L) = 0
          · obtain ⟨hf, hoth⟩ := first_check hck hN2 hNl
            have HF : Hid (checkK z (firstK (kd ps L) N) = 0) := hf
            have HO : Hid (checkK z (othersK (kd ps L) N) = 0) := hoth
            have hcz : ((checkK z (kd ps L) : Int) == 0) = true := by rw [hck]; rfl
            obtain ⟨x9, x10⟩ := (HA3.out.here HB313.out).cells
            clear hf hoth
            rw [hck]
            go_wp2_with fail
            refine (check_any (z := z) (HKA.out w13 HB313.out)).mono ?_
            rintro e w14 ⟨rfl, hb14⟩
            have HB614 : Hid (Below W6.heap.size W6 w14) := HB613.out.trans (hb14.mono HB613.out.size)
            have HB314 : Hid (Below W3.heap.size W3 w14) := HB313.out.trans (hb14.mono HB313.out.size)
            rw [show kd (ps.take N) (L.take k) = firstK (kd ps L) N by rw [HNK.out]; simp [kd, firstK, keysOf], HF.out]
            obtain ⟨x11, x12⟩ := (HC3.out.here HB314.out).cells
            clear hb14 x9 x10
            go_wp2_with fail
            refine (check_any (z := z) (HKC.out w14 HB314.out)).mono ?_
            rintro e w15 ⟨rfl, hb15⟩
            have HB615 : Hid (Below W6.heap.size W6 w15) := HB614.out.trans (hb15.mono HB614.out.size)
            rw [show kd (ps.drop N) (L.drop N) = othersK (kd ps L) N by simp [kd, othersK, keysOf], HO.out]
            clear hb15 x11 x12
            go_wp2
            go_ret
            exact ⟨rfl, HDONE.out w15 HB615.out⟩
          · have hcz : ((checkK z (kd ps L) : Int) == 0) = false := by rw [beq_eq_false_iff_ne]; omega
            clear hck
            go_wp2
            go_ret
            exact ⟨rfl, HDONE.out w13 HB613.out⟩
        · have g4 : (MO == LG) = false := by rw [beq_eq_false_iff_ne]; exact hmo
          clear g3 hmo
          go_wp2_with fail
          go_quiet (fail)
          obtain ⟨w12, hw12⟩ : ∃ w12, w12 = w11.drewN nq := ⟨_, rfl⟩
          rw [← hw12]
          have HB612 : Hid (Below W6.heap.size W6 w12) := by rw [hw12]; exact below_draws HB611.out _
          clear hw12 v1 v2 s1 hcell8 x5 x6
          have HB12 : Hid (Below W.heap.size W w12) := HBW6.out.trans (HB612.out.mono HBW6.out.size)
          have HB512 : Hid (Below W5.heap.size W5 w12) := HB56.out.trans (HB612.out.mono HB56.out.size)
          obtain ⟨x7, x8⟩ := (HX.out.here HB12.out).cells
          go_wp2_with fail
          refine (check_any (z := z) (HKI.out w12 HB12.out)).mono ?_
          rintro e w13 ⟨rfl, hb13⟩
          have HB613 : Hid (Below W6.heap.size W6 w13) := HB612.out.trans (hb13.mono HB612.out.size)
          have HB313 : Hid (Below W3.heap.size W3 w13) := HB5.out.trans ((HB512.out.trans (hb13.mono HB512.out.size)).mono HB5.out.size)
          clear hb13 x7 x8
          by_cases hck : checkK z (kd ps L) = 0
          · obtain ⟨hf, hoth⟩ := first_check hck hN2 hNl
            have HF : Hid (checkK z (firstK (kd ps L) N) = 0) := hf
            have HO : Hid (checkK z (othersK (kd ps L) N) = 0) := hoth
            have hcz : ((checkK z (kd ps L) : Int) == 0) = true := by rw [hck]; rfl
            obtain ⟨x9, x10⟩ := (HA3.out.here HB313.out).cells
            clear hf hoth
            rw [hck]
            go_wp2_with fail
            refine (check_any (z := z) (HKA.out w13 HB313.out)).mono ?_
            rintro e w14 ⟨rfl, hb14⟩
            have HB614 : Hid (Below W6.heap.size W6 w14) := HB613.out.trans (hb14.mono HB613.out.size)
            have HB314 : Hid (Below W3.heap.size W3 w14) := HB313.out.trans (hb14.mono HB313.out.size)
            rw [show kd (ps.take N) (L.take k) = firstK (kd ps L) N by rw [HNK.out]; simp [kd, firstK, keysOf], HF.out]
            obtain ⟨x11, x12⟩ := (HC3.out.here HB314.out).cells
            clear hb14 x9 x10
            go_wp2_with fail
            refine (check_any (z := z) (HKC.out w14 HB314.out)).mono ?_
            rintro e w15 ⟨rfl, hb15⟩
            have HB615 : Hid (Below W6.heap.size W6 w15) := HB614.out.trans (hb15.mono HB614.out.size)
            rw [show kd (ps.drop N) (L.drop N) = othersK (kd ps L) N by simp [kd, othersK, keysOf], HO.out]
            clear hb15 x11 x12
            go_wp2
            go_ret
            exact ⟨rfl, HDONE.out w15 HB615.out⟩
          · have hcz : ((checkK z (kd ps L) : Int) == 0) = false := by rw [beq_eq_false_iff_ne]; omega
            clear hck
            go_wp2
            go_ret
            exact ⟨rfl, HDONE.out w13 HB613.out⟩
  · have hEz : (((splitK wrap64 z (kd ps L)).2 : Int) != 0) = true := by simp; omega
    have hN : (splitK wrap64 z (kd ps L)).1 = 0 := splitK_no hE
    rw [hN] at HS
    generalize (splitK wrap64 z (kd ps L)).2 = E at *
    refine HS.mono ?_
    rintro e w2 ⟨rfl, hb2⟩
    have HB2 : Hid (Below w.heap.size w w2) := HBW.out.trans ((HB1.out.trans (hb2.mono HB1.out.size)).mono HBW.out.size)
    clear HS hb2 x0 x1 hN
    go_wp2
    go_ret
    exact ⟨by first | rfl | simp, HB2.out⟩
end Go.Proofs.Ytaehchijeinloab
