/- CacheHeld's walk: what is held is told by every Get. -/
import Derived.Test.YteajgodpdfcioaaHeldW
namespace Go.Proofs.Yteajgodpdfcioaa
open Go.RowKit Go.Maps

structure Rel1 (B j c : Nat) (w wr : World) (k : Nat) (hv : Value) (H : List Us) (s : Ca Value) (U : Nat) : Prop where
  row : NewUs B wr hv H
  here : Here B U w wr c s
  is : s.L = pinned (pairs H)
  places : s.places = j + 1
  few : U ≤ 2 * k
  room : H.length ≤ j + 1
  wf : ∀ u ∈ H, (Lit.int .i64 u.n).wf = true
structure Rel3 (B j c : Nat) (w wr : World) (k U0 nH : Nat) (hv : Value) (H : List Us) (s : Ca Value) (U : Nat) : Prop where
  row : NewUs B wr hv H
  len : H.length = nH
  here : Here B U w wr c s
  held : HeldBy s (pairs H)
  places : s.places = j + 1
  few : U ≤ U0 + 2 * k
  wf : ∀ u ∈ H, (Lit.int .i64 u.n).wf = true
theorem Rel1.drewN {B j c k U : Nat} {w wr : World} {hv : Value} {H : List Us} {s : Ca Value} (h : Rel1 B j c w wr k hv H s U) (q : Nat) : Rel1 B j c w (wr.drewN q) k hv H s U :=
  { h with row := own_still h.row (Still.drewN wr q) (by decide) (by decide) (by decide) (by decide), here := h.here.drewN q }
theorem Rel1.later {B j c k U : Nat} {w wr : World} {hv : Value} {H : List Us} {s : Ca Value} (h : Rel1 B j c w wr k hv H s U) : Rel1 B j c w wr (k + 1) hv H s U := { h with few := by have := h.few; omega }
theorem Rel3.drewN {B j c k U0 nH U : Nat} {w wr : World} {hv : Value} {H : List Us} {s : Ca Value} (h : Rel3 B j c w wr k U0 nH hv H s U) (q : Nat) : Rel3 B j c w (wr.drewN q) k U0 nH hv H s U :=
  { h with row := own_still h.row (Still.drewN wr q) (by decide) (by decide) (by decide) (by decide), here := h.here.drewN q }
def setU (n x : Int) (u : Us) : Us := if u.n = n then ⟨u.n, x⟩ else u
theorem pairs_set (n x : Int) (H : List Us) : pairs (H.map (setU n x)) = setH n (vi x) (pairs H) := by
  unfold pairs setH
  rw [List.map_map, List.map_map]
  refine List.map_congr_left (fun u _ => ?_)
  by_cases e : u.n = n <;> simp [setU, e]
theorem setU_n (n x : Int) (u : Us) : (setU n x u).n = u.n := by unfold setU; split <;> rfl
def stepU (n x : Int) (m : Nat) (H : List Us) : List Us := (H.take m).map (setU n x) ++ H.drop m
theorem stepU_len (n x : Int) (m : Nat) (H : List Us) : (stepU n x m H).length = H.length := by simp [stepU]; omega
theorem stepU_at {n x : Int} {m : Nat} {H : List Us} {u : Us} (h : H[m]? = some u) : (stepU n x m H)[m]? = some u := by
  obtain ⟨hl, he⟩ := List.getElem?_eq_some_iff.1 h
  unfold stepU
  rw [List.getElem?_append_right (by simp; omega)]
  simp
  rw [show m - min m H.length = 0 by omega]
  simpa using h
theorem stepU_next {n x : Int} {m : Nat} {H : List Us} {u : Us} (h : H[m]? = some u) : stepU n x (m + 1) H = (stepU n x m H).set m (setU n x u) := by
  obtain ⟨hl, he⟩ := List.getElem?_eq_some_iff.1 h
  unfold stepU
  rw [List.take_add_one, h, List.set_append_right _ _ (by simp; omega)]
  rw [show m - (List.map (setU n x) (List.take m H)).length = 0 by simp; omega]
  rw [← List.getElem_cons_drop (h := hl)]
  simp [he]
theorem stepU_same {n x : Int} {m : Nat} {H : List Us} {u : Us} (h : H[m]? = some u) (hne : u.n ≠ n) : stepU n x (m + 1) H = stepU n x m H := by
  rw [stepU_next h]
  have e : setU n x u = u := by simp [setU, hne]
  rw [e]
  have h2 := stepU_at (n := n) (x := x) h
  obtain ⟨hl, he⟩ := List.getElem?_eq_some_iff.1 h2
  rw [← he]
  exact List.set_getElem_self hl
theorem uses_cell {w : World} {a : Option Addr} {c k : Nat} {L : List Us} {u : Us} (h : UsesIn w (.slice a L.length c) L) (hk : L[k]? = some u) : ∃ g off, a = some ⟨g, off, none⟩ ∧ g < w.heap.size ∧ w.cell? ⟨g, off + k * 2, none⟩ = some (.int .i64 u.n) ∧ w.cell? ⟨g, off + k * 2 + 1, none⟩ = some (.int .i64 u.x) ∧ (Lit.int .i64 u.n).wf = true ∧ (Lit.int .i64 u.x).wf = true := by
  obtain ⟨a', c', e, _, _, h3⟩ := h.is
  cases e
  obtain ⟨⟨g, off, h4, h5, h6, h7⟩, h8, h9⟩ := h3 k u hk
  exact ⟨g, off, h4, h5, h6, h7, h8, h9⟩
theorem any_step {H : List Us} {m : Nat} {u : Us} (h : H[m]? = some u) (n : Int) : (H.take (m + 1)).any (fun u => u.n == n) = ((H.take m).any (fun u => u.n == n) || u.n == n) := by
  rw [List.take_add_one, h, List.any_append]
  simp
set_option maxHeartbeats 3200000 in
set_option maxRecDepth 100000 in
theorem cacheHeld_any {w : World} {v1 v2 : Value} {p : Int} {A L : List Us} (hp : (Lit.int .i64 p).wf = true) (h1 : UsesIn w v1 A) (h2 : UsesIn w v2 L) :
    Calls Try.prog 6 #[.int .i64 p, v1, v2] w fun e w' => e = .returned (.bool true) ∧ Below w.heap.size w w' := by
  obtain ⟨a1, c1, rfl, _⟩ := h1.is
  obtain ⟨a2, c2, rfl, _⟩ := h2.is
  have HA : Hid (UsesIn w (.slice a1 A.length c1) A) := h1
  have HL : Hid (UsesIn w (.slice a2 L.length c2) L) := h2
  have hsA : A.length ≤ 8796093022208 := by have := h1.short; omega
  have hsL : L.length ≤ 8796093022208 := by have := h2.short; omega
  have hsAz : (A.length : Int) ≤ 8796093022208 := by omega
  have hsLz : (L.length : Int) ≤ 8796093022208 := by omega
  clear h1 h2
  go_enter Try.func6, Try.ntmps6
  go_wp2_with fail
  refine (shown_any w).mono ?_
  rintro r w1 ⟨rfl, hb1⟩
  have HB1 : Hid (Below w.heap.size w w1) := hb1
  clear hb1
  go_wp2_with fail
  have HPK := pick_any w1 p 20 hp (by decide) (by decide)
  have hj20 := pickK_lt p 20 (by decide)
  generalize pickK p 20 = j at *
  refine HPK.mono ?_
  rintro r w1' ⟨rfl, hw1⟩
  obtain rfl := hw1.symm
  clear HPK
  have hjz : (j : Int) < 20 := by omega
  go_wp2_with fail
  have HNW : Hid (Calls Try.prog 12 #[.int .i64 (1 + (j : Int))] w1 fun r w' => r = .returned (.tuple #[ptr (w1.heap.size + 2), .int .i64 0]) ∧ CacheAt 0 (fun k => w1.heap.size ≤ k ∧ k < w1.heap.size + 3) w' (w1.heap.size + 2) ⟨j + 1, 0, 0, []⟩ ∧ Below w1.heap.size w1 w' ∧ w'.heap.size = w1.heap.size + 3) := by
    have e : (1 + (j : Int)) = ((j + 1 : Nat) : Int) := by omega
    rw [e]
    exact new_ok w1 (j + 1) (by omega) (by omega)
  refine Calls.mono HNW.out ?_
  rintro r w2 ⟨rfl, hc2, hb2, _⟩
  have HE : Hid (Here w.heap.size 0 w w2 (w1.heap.size + 2) ⟨j + 1, 0, 0, []⟩) := ⟨⟨_, hc2, fun k hk => Nat.le_trans HB1.out.size hk.1⟩, Below.trans HB1.out (hb2.mono HB1.out.size)⟩
  clear HNW hc2 hb2
  generalize hcc : w1.heap.size + 2 = c at *
  clear hcc
  go_wp2_with fail
  go_loopw [10, 11] (fun hv iv wr => ∃ (k : Nat) (H : List Us) (s : Ca Value) (U : Nat), k ≤ A.length ∧ iv = .int .i64 k ∧ Rel1 w.heap.size j c w wr k hv H s U) (fun _ iv _ => A.length - (intOf iv).toNat)
  case atStart => exact ⟨0, [], ⟨j + 1, 0, 0, []⟩, 0, Nat.zero_le _, rfl, ⟨World.ownsRow_nil _ _ _ _, HE.out, rfl, rfl, Nat.le_refl _, Nat.zero_le _, fun u hu => by cases hu⟩⟩
  case round =>
    obtain ⟨k, H, s, U, hk, rfl, hR⟩ := hrel
    have HR : Hid (Rel1 w.heap.size j c w wr k _ H s U) := hR
    obtain ⟨ah, ch, rfl⟩ := own_slice hR.row
    have hHl : (H.length : Int) ≤ 21 := by have := hR.room; omega
    have hU1 : U < 4611686018427387904 := by have := hR.few; omega
    clear hR
    by_cases hlt : k < A.length
    · have hltz : (k : Int) < (A.length : Int) := by omega
      by_cases hhl : H.length < j + 1
      · have hhz : (H.length : Int) < 1 + (j : Int) := by omega
        have HHL : Hid (H.length < j + 1) := hhl
        obtain ⟨u, hu⟩ : ∃ u, A[k]? = some u := ⟨_, List.getElem?_eq_getElem hlt⟩
        obtain ⟨g, off, rfl, hg, n0, x0, wn, wx⟩ := uses_cell HA.out hu
        have m0 := (Below.cell (p := ⟨g, off + k * 2, none⟩) HR.out.here.2 hg).trans n0
        have m1 := (Below.cell (p := ⟨g, off + k * 2 + 1, none⟩) HR.out.here.2 hg).trans x0
        clear n0 x0 hu hhl
        go_wp2_with fail
        go_loopw [12, 13] (fun t kv wx => ∃ m : Nat, m ≤ H.length ∧ kv = .int .i64 m ∧ t = .bool ((H.take m).any (fun x => x.n == u.n)) ∧ ∃ q, wx = wr.drewN q) (fun _ kv _ => H.length - (intOf kv).toNat)
        case atStart => exact ⟨0, Nat.zero_le _, rfl, rfl, 0, rfl⟩
        case round =>
          obtain ⟨m, hm, rfl, rfl, q, rfl⟩ := hrel
          by_cases hmlt : m < H.length
          · have hmz : (m : Int) < (H.length : Int) := by omega
            obtain ⟨y, hy⟩ : ∃ y, H[m]? = some y := ⟨_, List.getElem?_eq_getElem hmlt⟩
            obtain ⟨gh, rfl, _, hgh, y0, _, _⟩ := us_cell HR.out.row hy
            have HST := any_step hy u.n
            generalize hb : (H.take m).any (fun x => x.n == u.n) = b at *
            have HSTH : Hid ((H.take (m + 1)).any (fun x => x.n == u.n) = (b || y.n == u.n)) := HST
            clear HST hb hy
            cases b with
            | true =>
              go_wp2_with fail
              go_quiet (fail)
              go_wp2_with fail
              exact ⟨⟨m + 1, by omega, by go_num, by rw [HSTH.out]; rfl, _, rfl⟩, by simp [intOf]; omega⟩
            | false =>
              by_cases e : y.n = u.n
              · have he : (y.n == u.n) = true := by simpa using e
                go_wp2_with fail
                go_quiet (fail)
                go_wp2_with fail
                exact ⟨⟨m + 1, by omega, by go_num, by rw [HSTH.out, he]; simp, _, rfl⟩, by simp [intOf]; omega⟩
              · have he : (y.n == u.n) = false := by simpa using e
                go_wp2_with fail
                go_quiet (fail)
                go_wp2_with fail
                exact ⟨⟨m + 1, by omega, by go_num, by rw [HSTH.out, he]; simp, _, rfl⟩, by simp [intOf]; omega⟩
          · have hmz : ¬ (m : Int) < (H.length : Int) := by omega
            have HTK : Hid (H.take m = H) := List.take_of_length_le (by omega)
            rw [HTK.out]
            generalize hb : H.any (fun x => x.n == u.n) = b at *
            have HBB : Hid (H.any (fun x => x.n == u.n) = b) := hb
            clear hb hmlt hm
            have HRQ : Hid (Rel1 w.heap.size j c w (wr.drewN q) k (.slice ah H.length ch) H s U) := HR.out.drewN q
            clear HR
            cases b with
            | true =>
              go_wp2_with fail
              exact ⟨⟨k + 1, H, s, U, by omega, by go_num, HRQ.out.later⟩, by simp [intOf]; omega⟩
            | false =>
              have k0 : (wr.drewN q).cell? ⟨g, off + k * 2, none⟩ = some (.int .i64 u.n) := m0
              have k1 : (wr.drewN q).cell? ⟨g, off + k * 2 + 1, none⟩ = some (.int .i64 u.x) := m1
              clear m0 m1
              generalize hwq : wr.drewN q = wq at *
              clear hwq
              have HPT : Hid (Calls Try.prog 14 #[ptr c, .int .i64 u.n, .int .i64 u.x] wq.drew fun r w' => ∃ z t, r = .returned (.tuple #[.int .i64 z, .bool t]) ∧ Hid (Here w.heap.size (U + 1) w w' c (s.put u.n (vi u.x)) ∧ Still wq.drew w')) := put_here HRQ.out.here.drew (Nat.le_refl _) wn hU1
              have hnot : ∀ p ∈ pairs H, p.1 ≠ u.n := fun p hp => by
                obtain ⟨y, hy, rfl⟩ := List.mem_map.1 hp
                have := HBB.out
                rw [List.any_eq_false] at this
                simpa using this y hy
              have hpn := pinned_next (x := vi u.x) HRQ.out.is (by rw [HRQ.out.places]; simpa [pairs] using HHL.out) hnot
              have HPN : Hid (((s.put u.n (vi u.x)).pin u.n).L = pinned (pairs H ++ [(u.n, vi u.x)]) ∧ (s.put u.n (vi u.x)).has u.n = true) := hpn
              clear hnot hpn HBB
              go_wp2_with fail
              go_region_held_law (fun W' => W'.cell? ⟨g, off + k * 2, none⟩ = some (.int .i64 u.n) ∧ W'.cell? ⟨g, off + k * 2 + 1, none⟩ = some (.int .i64 u.x)) (first | (refine ⟨?_, ?_⟩ <;> with_reducible assumption) | (go_keep; done))
                (first
                  | (go_at_call 14; refine Calls.mono HPT.out ?_
                     rintro r w3 ⟨z3, t3, rfl, hq3⟩
                     have e0 := (Below.cell (p := ⟨g, off + k * 2, none⟩) hq3.out.1.2 hg)
                     have e1 := (Below.cell (p := ⟨g, off + k * 2 + 1, none⟩) hq3.out.1.2 hg)
                     have f0 : w3.cell? ⟨g, off + k * 2, none⟩ = some (.int .i64 u.n) := e0.trans ((Below.cell (p := ⟨g, off + k * 2, none⟩) HRQ.out.here.2 hg).symm.trans k0)
                     have f1 : w3.cell? ⟨g, off + k * 2 + 1, none⟩ = some (.int .i64 u.x) := e1.trans ((Below.cell (p := ⟨g, off + k * 2 + 1, none⟩) HRQ.out.here.2 hg).symm.trans k1)
                     clear e0 e1))
              clear HPT k0 k1
              have HPI : Hid (Calls Try.prog 18 #[ptr c, .int .i64 u.n] w3 fun r w' => r = .returned (.bool true) ∧ Hid (Here w.heap.size (U + 1 + 1) w w' c ((s.put u.n (vi u.x)).pin u.n) ∧ Still w3 w')) := by
                have := pin_here hq3.out.1 (Nat.le_refl _) wn (by have := HRQ.out.few; omega : U + 1 < 4611686018427387904)
                rw [HPN.out.2] at this
                exact this
              go_wp2_with fail
              refine Calls.mono HPI.out ?_
              rintro r w4 ⟨rfl, hq4⟩
              clear HPI
              have e0 := (Below.cell (p := ⟨g, off + k * 2, none⟩) hq4.out.1.2 hg)
              have e1 := (Below.cell (p := ⟨g, off + k * 2 + 1, none⟩) hq4.out.1.2 hg)
              have d0 : w4.cell? ⟨g, off + k * 2, none⟩ = some (.int .i64 u.n) := e0.trans ((Below.cell (p := ⟨g, off + k * 2, none⟩) hq3.out.1.2 hg).symm.trans f0)
              have d1 : w4.cell? ⟨g, off + k * 2 + 1, none⟩ = some (.int .i64 u.x) := e1.trans ((Below.cell (p := ⟨g, off + k * 2 + 1, none⟩) hq3.out.1.2 hg).symm.trans f1)
              have hrow4 : NewUs w.heap.size w4 (.slice ah H.length ch) H := own_still HRQ.out.row (((Still.drew wq).trans hq3.out.2).trans hq4.out.2) (by decide) (by decide) (by decide) (by decide)
              have HV : Hid (NewUs w.heap.size (w4.alloc (.cells #[.int .i64 u.n, .int .i64 u.x] 44)) (.slice ah H.length ch) H) := own_here hrow4 (below_new _ _)
              have HE4 : Hid (Here w.heap.size (U + 1 + 1) w (w4.alloc (.cells #[.int .i64 u.n, .int .i64 u.x] 44)) c ((s.put u.n (vi u.x)).pin u.n)) := hq4.out.1.new _ (Nat.le_refl _)
              clear e0 e1 f0 f1 hrow4 hq3 hq4
              go_wp2_with (at_builtin
                           refine wpList_append_us rfl _ _ rfl w.heap.size (.slice ah H.length ch) H u rfl HV.out w4.heap.size rfl (heap_alloc_last w4 _) (by have := HRQ.out.room; omega) (Below.size HE4.out.2) ?_
                           intro v5 w5 hv5 hg5 hk5
                           have HV5 : Hid (NewUs w.heap.size w5 v5 (H ++ [u])) := hv5
                           have HE5 : Hid (Here w.heap.size (U + 1 + 1) w w5 c ((s.put u.n (vi u.x)).pin u.n)) := HE4.out.grown HV.out hg5 (by decide) (by decide) (Nat.le_refl _)
                           clear hv5 hg5 hk5)
              refine ⟨⟨k + 1, H ++ [u], (s.put u.n (vi u.x)).pin u.n, U + 1 + 1, by omega, by go_num, ⟨HV5.out, HE5.out, ?_, ?_, ?_, ?_, ?_⟩⟩, by simp [intOf]; omega⟩
              · rw [HPN.out.1]
                simp [pairs]
              · rw [pin_places, putN_places]
                exact HRQ.out.places
              · have := HRQ.out.few
                omega
              · have := HHL.out
                simp
                omega
              · intro y hy
                rcases List.mem_append.1 hy with hy | hy
                · exact HRQ.out.wf y hy
                · simp at hy
                  subst hy
                  exact wn
      · have hhz : ¬ (H.length : Int) < 1 + (j : Int) := by omega
        have HR3 : Hid (Rel3 w.heap.size j c w wr 0 U H.length (.slice ah H.length ch) H s U) := ⟨HR.out.row, rfl, HR.out.here, pinned_held HR.out.is, HR.out.places, by omega, HR.out.wf⟩
        have hU2 : U ≤ 17592186044416 := by have := HR.out.few; omega
        generalize hU0 : U = U0 at *
        generalize hH0 : H = H0 at *
        have HNH0 : Hid (H0.length ≤ 21) := by have := HR.out.room; show _ ≤ _; omega
        generalize hnH : H0.length = nH at *
        have HNH : Hid (nH ≤ 21) := HNH0.out
        generalize hs0 : s = s0 at *
        clear HNH0 HR hU0 hH0 hnH hs0 HA hU1
        go_wp2_with fail
        go_loopw [14] (fun iv wx => ∃ (i : Nat) (H : List Us) (s : Ca Value) (U : Nat), i ≤ L.length ∧ iv = .int .i64 i ∧ Rel3 w.heap.size j c w wx i U0 nH (.slice ah nH ch) H s U) (fun iv _ => L.length - (intOf iv).toNat)
        case atStart => exact ⟨0, H0, s0, U0, Nat.zero_le _, rfl, HR3.out⟩
        case round =>
          obtain ⟨i, H, s, U, hi, rfl, hR⟩ := hrel
          obtain ⟨wi, rfl⟩ : ∃ wi, wi = wr := ⟨_, rfl⟩
          have HR : Hid (Rel3 w.heap.size j c w wi i U0 nH (.slice ah nH ch) H s U) := hR
          have hU3 : U ≤ 35184372088832 := by have := hR.few; omega
          clear hR HR3
          by_cases hil : i < L.length
          · have hilz : (i : Int) < (L.length : Int) := by omega
            obtain ⟨u, hu⟩ : ∃ u, L[i]? = some u := ⟨_, List.getElem?_eq_getElem hil⟩
            obtain ⟨g, off, rfl, hg, n0, x0, wn, wx⟩ := uses_cell HL.out hu
            have k0 := (Below.cell (p := ⟨g, off + i * 2, none⟩) HR.out.here.2 hg).trans n0
            have k1 := (Below.cell (p := ⟨g, off + i * 2 + 1, none⟩) HR.out.here.2 hg).trans x0
            have HCE : Hid (∀ W, Below w.heap.size w W → W.cell? ⟨g, off + i * 2, none⟩ = some (.int .i64 u.n) ∧ W.cell? ⟨g, off + i * 2 + 1, none⟩ = some (.int .i64 u.x)) := fun W hb => ⟨(Below.cell (p := ⟨g, off + i * 2, none⟩) hb hg).trans n0, (Below.cell (p := ⟨g, off + i * 2 + 1, none⟩) hb hg).trans x0⟩
            clear n0 x0 hu
            have HPT : Hid (Calls Try.prog 14 #[ptr c, .int .i64 u.n, .int .i64 u.x] wi.drew fun r w' => ∃ z t, r = .returned (.tuple #[.int .i64 z, .bool t]) ∧ Hid (Here w.heap.size (U + 1) w w' c (s.put u.n (vi u.x)) ∧ Still wi.drew w')) := put_here HR.out.here.drew (Nat.le_refl _) wn (by omega)
            have HHB : Hid (HeldBy (s.put u.n (vi u.x)) (pairs (H.map (setU u.n u.x)))) := by
              rw [pairs_set]
              exact HR.out.held.put HR.out.here.facts.1 u.n (vi u.x)
            have HPL : Hid ((s.put u.n (vi u.x)).places = j + 1) := (putN_places s u.n (vi u.x)).trans HR.out.places
            go_wp2_with fail
            go_region_held_law (fun W' => W'.cell? ⟨g, off + i * 2, none⟩ = some (.int .i64 u.n) ∧ W'.cell? ⟨g, off + i * 2 + 1, none⟩ = some (.int .i64 u.x)) (first | (refine ⟨?_, ?_⟩ <;> with_reducible assumption) | (go_keep; done))
              (first
                | (go_at_call 14; refine Calls.mono HPT.out ?_
                   rintro r w3 ⟨z3, t3, rfl, hq3⟩
                   obtain ⟨f0, f1⟩ := HCE.out w3 hq3.out.1.2))
            clear HPT k0 k1 f0 f1
            have HROW : Hid (NewUs w.heap.size w3 (.slice ah nH ch) H) := own_still HR.out.row ((Still.drew wi).trans hq3.out.2) (by decide) (by decide) (by decide) (by decide)
            have HLEN : Hid (H.length = nH) := HR.out.len
            have HWF : Hid (∀ u ∈ H, (Lit.int .i64 u.n).wf = true) := HR.out.wf
            have HFW : Hid (U ≤ U0 + 2 * i) := HR.out.few
            have HE3 : Hid (Here w.heap.size (U + 1) w w3 c (s.put u.n (vi u.x))) := hq3.out.1
            clear HR hq3
            generalize hs1 : s.put u.n (vi u.x) = s1 at *
            clear hs1
            go_wp2_with fail
            go_loopw [15] (fun kv wx => ∃ m : Nat, m ≤ nH ∧ kv = .int .i64 m ∧ NewUs w.heap.size wx (.slice ah nH ch) (stepU u.n u.x m H) ∧ Here w.heap.size (U + 1) w wx c s1) (fun kv _ => nH - (intOf kv).toNat)
            case atStart => exact ⟨0, Nat.zero_le _, rfl, by simpa [stepU] using HROW.out, HE3.out⟩
            case round =>
              obtain ⟨m, hm, rfl, hrow, hhere⟩ := hrel
              by_cases hml : m < nH
              · have hmz : (m : Int) < (nH : Int) := by omega
                obtain ⟨y, hy⟩ : ∃ y, H[m]? = some y := ⟨_, List.getElem?_eq_getElem (by have := HLEN.out; omega)⟩
                have hsl : (stepU u.n u.x m H).length = nH := (stepU_len _ _ _ _).trans HLEN.out
                have hy2 := stepU_at (n := u.n) (x := u.x) hy
                obtain ⟨gh, rfl, hgb, hgh, y0, y1, fy⟩ := us_cell (by rw [hsl]; exact hrow) hy2
                obtain ⟨f0, f1⟩ := HCE.out _ hhere.2
                have HRW : Hid (NewUs w.heap.size wr (.slice (some ⟨gh, 0, none⟩) nH ch) (stepU u.n u.x m H)) := hrow
                have HHR : Hid (Here w.heap.size (U + 1) w wr c s1) := hhere
                have hgw : gh ≠ g := by omega
                have hgw2 : g ≠ gh := by omega
                clear hrow hhere hy2
                by_cases e : y.n = u.n
                · have he : (y.n == u.n) = true := by simpa using e
                  have HS1 : Hid (NewUs w.heap.size (wr.setCell ⟨gh, m * 2 + 1, none⟩ (.int .i64 u.x)) (.slice (some ⟨gh, 0, none⟩) nH ch) (stepU u.n u.x (m + 1) H)) := by
                    have h1 : wr.ownsRow w.heap.size 44 2 (.slice (some ⟨gh, 0, none⟩) nH ch) nH (flatUs (stepU u.n u.x m H)) := by
                      have h0 : wr.ownsRow w.heap.size 44 2 (.slice (some ⟨gh, 0, none⟩) nH ch) (stepU u.n u.x m H).length (flatUs (stepU u.n u.x m H)) := HRW.out
                      rw [hsl] at h0
                      exact h0
                    have h2 := own_set h1 (m * 2 + 1) (.int .i64 u.x)
                    rw [flatUs_set (stepU_at hy) u.x] at h2
                    have h3 : stepU u.n u.x (m + 1) H = (stepU u.n u.x m H).set m ⟨y.n, u.x⟩ := by
                      rw [stepU_next hy]
                      simp [setU, e]
                    rw [← h3] at h2
                    show (wr.setCell ⟨gh, m * 2 + 1, none⟩ (.int .i64 u.x)).ownsRow _ _ _ _ (stepU u.n u.x (m + 1) H).length _
                    rw [stepU_len, HLEN.out]
                    exact h2
                  have HH1 : Hid (Here w.heap.size (U + 1) w (wr.setCell ⟨gh, m * 2 + 1, none⟩ (.int .i64 u.x)) c s1) := by
                    obtain ⟨_, _, cur, hcur⟩ := own_type HRW.out gh rfl
                    exact HHR.out.far (setCell_kept _) (fun i hi _ => by cases hi; exact ⟨hgb, cur, _, hcur⟩) (by decide) (by decide) (Nat.le_refl _)
                  clear hy hsl
                  go_wp2_with fail
                  go_quiet (fail)
                  go_wp2_with fail
                  exact ⟨⟨m + 1, by omega, by go_num, own_still HS1.out (Still.drewN _ nq) (by decide) (by decide) (by decide) (by decide), HH1.out.drewN nq⟩, by simp [intOf]; omega⟩
                · have he : (y.n == u.n) = false := by simpa using e
                  have HS1 : Hid (stepU u.n u.x (m + 1) H = stepU u.n u.x m H) := stepU_same hy e
                  clear hy hsl
                  go_wp2_with fail
                  go_quiet (fail)
                  go_wp2_with fail
                  exact ⟨⟨m + 1, by omega, by go_num, by rw [HS1.out]; exact own_still HRW.out (Still.drewN _ nq) (by decide) (by decide) (by decide) (by decide), HHR.out.drewN nq⟩, by simp [intOf]; omega⟩
              · have hmz : ¬ (m : Int) < (nH : Int) := by omega
                have HST : Hid (stepU u.n u.x m H = H.map (setU u.n u.x)) := by
                  show _ = _
                  unfold stepU
                  rw [List.take_of_length_le (by have := HLEN.out; omega), List.drop_of_length_le (by have := HLEN.out; omega), List.append_nil]
                rw [HST.out] at hrow
                generalize hH1 : H.map (setU u.n u.x) = H1 at *
                have HL1 : Hid (H1.length = nH) := (show H1.length = nH by rw [← hH1]; simpa using HLEN.out)
                have HW1 : Hid (∀ u ∈ H1, (Lit.int .i64 u.n).wf = true) := by
                  rw [← hH1]
                  intro y hy
                  obtain ⟨y', hy', rfl⟩ := List.mem_map.1 hy
                  rw [setU_n]
                  exact HWF.out y' hy'
                have HRW : Hid (NewUs w.heap.size wr (.slice ah nH ch) H1) := hrow
                have HHR : Hid (Here w.heap.size (U + 1) w wr c s1) := hhere
                clear hrow hhere HST hH1 HROW HE3 hml hm HWF HLEN
                have HCT := count_here HHR.out
                have hcl : ¬ (1 + (j : Int)) < (s1.L.length : Int) := by
                  have h1 := HHR.out.facts.2.1
                  have h2 := HPL.out
                  omega
                go_wp2_with fail
                refine HCT.mono ?_
                rintro r w4 ⟨rfl, hw4⟩
                obtain rfl := hw4.symm
                clear HCT
                by_cases hn0 : nH = 0
                · have hnz : ¬ (0 : Int) < (nH : Int) := by omega
                  exfalso; omega
                · have hnz : (0 : Int) < (nH : Int) := by omega
                  have hnz2 : ((nH : Int) == 0) = false := by rw [beq_eq_false_iff_ne]; omega
                  obtain ⟨d, hd⟩ : ∃ d, d = i % nH := ⟨_, rfl⟩
                  have hdl : d < nH := by rw [hd]; exact Nat.mod_lt _ (by omega)
                  have hdz : (d : Int) < (nH : Int) := by omega
                  have htm : (i : Int).tmod (nH : Int) = (d : Int) := by rw [Int.tmod_eq_emod_of_nonneg (by omega), hd]; rfl
                  have hem : (i : Int) % (nH : Int) = (d : Int) := by rw [hd]; rfl
                  obtain ⟨y, hy⟩ : ∃ y, H1[d]? = some y := ⟨_, List.getElem?_eq_getElem (by have := HL1.out; omega)⟩
                  have hym : y ∈ H1 := List.mem_of_getElem? hy
                  obtain ⟨gh, rfl, hgb, hgh, y0, y1, fy⟩ := us_cell (by rw [HL1.out]; exact HRW.out) hy
                  have hwy := HW1.out y hym
                  obtain ⟨t, ft, fx⟩ := HHB.out.found HHR.out.facts.1 (p := (y.n, vi y.x)) (List.mem_map.2 ⟨y, hym, rfl⟩)
                  have HGT : Hid (Calls Try.prog 13 #[ptr c, .int .i64 y.n] wr fun r w' => r = .returned (.tuple #[.int .i64 y.x, .bool true]) ∧ Hid (Here w.heap.size (U + 1 + 1) w w' c (s1.get y.n) ∧ Still wr w')) := by
                    have h1 := get_here HHR.out (Nat.le_refl _) hwy (by omega)
                    have e1 : s1.tells y.n = .int .i64 y.x := by unfold Ca.tells; rw [show findT y.n s1.L = _ from ft]; exact fx
                    have e2 : s1.has y.n = true := by unfold Ca.has; rw [show findT y.n s1.L = _ from ft]; rfl
                    rw [e1, e2] at h1
                    exact h1
                  have HGB : Hid (HeldBy (s1.get y.n) (pairs H1)) := HHB.out.get HHR.out.facts.1 y.n
                  have HGP : Hid ((s1.get y.n).places = j + 1) := (getN_places s1 y.n).trans HPL.out
                  have HXX : Hid (w.heap.size ≤ gh) := hgb
                  clear hd hy ft fx hgb
                  go_wp2_with fail
                  refine Calls.mono HGT.out ?_
                  rintro r w5 ⟨rfl, hq5⟩
                  clear HGT
                  have HR5 : Hid (NewUs w.heap.size w5 (.slice (some ⟨gh, 0, none⟩) nH ch) H1) := own_still HRW.out hq5.out.2 (by decide) (by decide) (by decide) (by decide)
                  have z1 : w5.cell? ⟨gh, d * 2 + 1, none⟩ = some (.int .i64 y.x) := by
                    obtain ⟨_, _, cur, hcur⟩ := own_type HRW.out gh rfl
                    have h1 := hq5.out.2.is gh cur _ _ (by decide) (by decide) (by decide) (by decide) hcur
                    rw [row_cell h1, ← row_cell hcur]
                    exact y1
                  go_wp2_with fail
                  exact ⟨⟨i + 1, H1, s1.get y.n, U + 1 + 1, by omega, by go_num, ⟨HR5.out, HL1.out, hq5.out.1, HGB.out, HGP.out, by have := HFW.out; omega, HW1.out⟩⟩, by simp [intOf]; omega⟩
          · have hilz : ¬ (i : Int) < (L.length : Int) := by omega
            generalize hU7 : U = U1 at *
            clear hU7
            go_wp2_with fail
            go_loopw [19] (fun kv wx => ∃ (m : Nat) (s : Ca Value) (U : Nat), m ≤ nH ∧ kv = .int .i64 m ∧ Rel3 w.heap.size j c w wx m U1 nH (.slice ah nH ch) H s U) (fun kv _ => nH - (intOf kv).toNat)
            case atStart => exact ⟨0, s, U1, Nat.zero_le _, rfl, { HR.out with few := by omega }⟩
            case round =>
              obtain ⟨m, s1, U, hm, rfl, hR1⟩ := hrel
              have HR1 : Hid (Rel3 w.heap.size j c w wr m U1 nH (.slice ah nH ch) H s1 U) := hR1
              have hnl : nH ≤ 1099511627776 := by
                have h1 := HR.out.len
                have h2 := hR1.here.2
                have h3 := HNH.out
                omega
              have hU9 : U < 4611686018427387904 := by have := hR1.few; omega
              clear hR1
              by_cases hml : m < nH
              · have hmz : (m : Int) < (nH : Int) := by omega
                obtain ⟨y, hy⟩ : ∃ y, H[m]? = some y := ⟨_, List.getElem?_eq_getElem (by have := HR.out.len; omega)⟩
                have hym : y ∈ H := List.mem_of_getElem? hy
                obtain ⟨gh, rfl, hgb, hgh, y0, y1, fy⟩ := us_cell (by rw [HR1.out.len]; exact HR1.out.row) hy
                have hwy := HR1.out.wf y hym
                obtain ⟨t, ft, fx⟩ := HR1.out.held.found HR1.out.here.facts.1 (p := (y.n, vi y.x)) (List.mem_map.2 ⟨y, hym, rfl⟩)
                have HGT : Hid (Calls Try.prog 13 #[ptr c, .int .i64 y.n] wr fun r w' => r = .returned (.tuple #[.int .i64 y.x, .bool true]) ∧ Hid (Here w.heap.size (U + 1) w w' c (s1.get y.n) ∧ Still wr w')) := by
                  have h1 := get_here HR1.out.here (Nat.le_refl _) hwy hU9
                  have e1 : s1.tells y.n = .int .i64 y.x := by unfold Ca.tells; rw [show findT y.n s1.L = _ from ft]; exact fx
                  have e2 : s1.has y.n = true := by unfold Ca.has; rw [show findT y.n s1.L = _ from ft]; rfl
                  rw [e1, e2] at h1
                  exact h1
                have HGB : Hid (HeldBy (s1.get y.n) (pairs H)) := HR1.out.held.get HR1.out.here.facts.1 y.n
                have HGP : Hid ((s1.get y.n).places = j + 1) := (getN_places s1 y.n).trans HR1.out.places
                clear hy ft fx hgb
                go_wp2_with fail
                refine Calls.mono HGT.out ?_
                rintro r w5 ⟨rfl, hq5⟩
                clear HGT
                have HR5 : Hid (NewUs w.heap.size w5 (.slice (some ⟨gh, 0, none⟩) nH ch) H) := own_still HR1.out.row hq5.out.2 (by decide) (by decide) (by decide) (by decide)
                have z1 : w5.cell? ⟨gh, m * 2 + 1, none⟩ = some (.int .i64 y.x) := by
                  obtain ⟨_, _, cur, hcur⟩ := own_type HR1.out.row gh rfl
                  have h1 := hq5.out.2.is gh cur _ _ (by decide) (by decide) (by decide) (by decide) hcur
                  rw [row_cell h1, ← row_cell hcur]
                  exact y1
                go_wp2_with fail
                exact ⟨⟨m + 1, s1.get y.n, U + 1, by omega, by go_num, ⟨HR5.out, HR1.out.len, hq5.out.1, HGB.out, HGP.out, by have := HR1.out.few; omega, HR1.out.wf⟩⟩, by simp [intOf]; omega⟩
              · have hmz : ¬ (m : Int) < (nH : Int) := by omega
                go_wp2_with fail
                go_ret
                exact ⟨rfl, HR1.out.here.2⟩
    · have hltz : ¬ (k : Int) < (A.length : Int) := by omega
      have HR3 : Hid (Rel3 w.heap.size j c w wr 0 U H.length (.slice ah H.length ch) H s U) := ⟨HR.out.row, rfl, HR.out.here, pinned_held HR.out.is, HR.out.places, by omega, HR.out.wf⟩
      have hU2 : U ≤ 17592186044416 := by have := HR.out.few; omega
      generalize hU0 : U = U0 at *
      generalize hH0 : H = H0 at *
      have HNH0 : Hid (H0.length ≤ 21) := by have := HR.out.room; show _ ≤ _; omega
      generalize hnH : H0.length = nH at *
      have HNH : Hid (nH ≤ 21) := HNH0.out
      generalize hs0 : s = s0 at *
      clear HNH0 HR hU0 hH0 hnH hs0 HA hU1
      go_wp2_with fail
      go_loopw [14] (fun iv wx => ∃ (i : Nat) (H : List Us) (s : Ca Value) (U : Nat), i ≤ L.length ∧ iv = .int .i64 i ∧ Rel3 w.heap.size j c w wx i U0 nH (.slice ah nH ch) H s U) (fun iv _ => L.length - (intOf iv).toNat)
      case atStart => exact ⟨0, H0, s0, U0, Nat.zero_le _, rfl, HR3.out⟩
      case round =>
        obtain ⟨i, H, s, U, hi, rfl, hR⟩ := hrel
        obtain ⟨wi, rfl⟩ : ∃ wi, wi = wr := ⟨_, rfl⟩
        have HR : Hid (Rel3 w.heap.size j c w wi i U0 nH (.slice ah nH ch) H s U) := hR
        have hU3 : U ≤ 35184372088832 := by have := hR.few; omega
        clear hR HR3
        by_cases hil : i < L.length
        · have hilz : (i : Int) < (L.length : Int) := by omega
          obtain ⟨u, hu⟩ : ∃ u, L[i]? = some u := ⟨_, List.getElem?_eq_getElem hil⟩
          obtain ⟨g, off, rfl, hg, n0, x0, wn, wx⟩ := uses_cell HL.out hu
          have k0 := (Below.cell (p := ⟨g, off + i * 2, none⟩) HR.out.here.2 hg).trans n0
          have k1 := (Below.cell (p := ⟨g, off + i * 2 + 1, none⟩) HR.out.here.2 hg).trans x0
          have HCE : Hid (∀ W, Below w.heap.size w W → W.cell? ⟨g, off + i * 2, none⟩ = some (.int .i64 u.n) ∧ W.cell? ⟨g, off + i * 2 + 1, none⟩ = some (.int .i64 u.x)) := fun W hb => ⟨(Below.cell (p := ⟨g, off + i * 2, none⟩) hb hg).trans n0, (Below.cell (p := ⟨g, off + i * 2 + 1, none⟩) hb hg).trans x0⟩
          clear n0 x0 hu
          have HPT : Hid (Calls Try.prog 14 #[ptr c, .int .i64 u.n, .int .i64 u.x] wi.drew fun r w' => ∃ z t, r = .returned (.tuple #[.int .i64 z, .bool t]) ∧ Hid (Here w.heap.size (U + 1) w w' c (s.put u.n (vi u.x)) ∧ Still wi.drew w')) := put_here HR.out.here.drew (Nat.le_refl _) wn (by omega)
          have HHB : Hid (HeldBy (s.put u.n (vi u.x)) (pairs (H.map (setU u.n u.x)))) := by
            rw [pairs_set]
            exact HR.out.held.put HR.out.here.facts.1 u.n (vi u.x)
          have HPL : Hid ((s.put u.n (vi u.x)).places = j + 1) := (putN_places s u.n (vi u.x)).trans HR.out.places
          go_wp2_with fail
          go_region_held_law (fun W' => W'.cell? ⟨g, off + i * 2, none⟩ = some (.int .i64 u.n) ∧ W'.cell? ⟨g, off + i * 2 + 1, none⟩ = some (.int .i64 u.x)) (first | (refine ⟨?_, ?_⟩ <;> with_reducible assumption) | (go_keep; done))
            (first
              | (go_at_call 14; refine Calls.mono HPT.out ?_
                 rintro r w3 ⟨z3, t3, rfl, hq3⟩
                 obtain ⟨f0, f1⟩ := HCE.out w3 hq3.out.1.2))
          clear HPT k0 k1 f0 f1
          have HROW : Hid (NewUs w.heap.size w3 (.slice ah nH ch) H) := own_still HR.out.row ((Still.drew wi).trans hq3.out.2) (by decide) (by decide) (by decide) (by decide)
          have HLEN : Hid (H.length = nH) := HR.out.len
          have HWF : Hid (∀ u ∈ H, (Lit.int .i64 u.n).wf = true) := HR.out.wf
          have HFW : Hid (U ≤ U0 + 2 * i) := HR.out.few
          have HE3 : Hid (Here w.heap.size (U + 1) w w3 c (s.put u.n (vi u.x))) := hq3.out.1
          clear HR hq3
          generalize hs1 : s.put u.n (vi u.x) = s1 at *
          clear hs1
          go_wp2_with fail
          go_loopw [15] (fun kv wx => ∃ m : Nat, m ≤ nH ∧ kv = .int .i64 m ∧ NewUs w.heap.size wx (.slice ah nH ch) (stepU u.n u.x m H) ∧ Here w.heap.size (U + 1) w wx c s1) (fun kv _ => nH - (intOf kv).toNat)
          case atStart => exact ⟨0, Nat.zero_le _, rfl, by simpa [stepU] using HROW.out, HE3.out⟩
          case round =>
            obtain ⟨m, hm, rfl, hrow, hhere⟩ := hrel
            by_cases hml : m < nH
            · have hmz : (m : Int) < (nH : Int) := by omega
              obtain ⟨y, hy⟩ : ∃ y, H[m]? = some y := ⟨_, List.getElem?_eq_getElem (by have := HLEN.out; omega)⟩
              have hsl : (stepU u.n u.x m H).length = nH := (stepU_len _ _ _ _).trans HLEN.out
              have hy2 := stepU_at (n := u.n) (x := u.x) hy
              obtain ⟨gh, rfl, hgb, hgh, y0, y1, fy⟩ := us_cell (by rw [hsl]; exact hrow) hy2
              obtain ⟨f0, f1⟩ := HCE.out _ hhere.2
              have HRW : Hid (NewUs w.heap.size wr (.slice (some ⟨gh, 0, none⟩) nH ch) (stepU u.n u.x m H)) := hrow
              have HHR : Hid (Here w.heap.size (U + 1) w wr c s1) := hhere
              have hgw : gh ≠ g := by omega
              have hgw2 : g ≠ gh := by omega
              clear hrow hhere hy2
              by_cases e : y.n = u.n
              · have he : (y.n == u.n) = true := by simpa using e
                have HS1 : Hid (NewUs w.heap.size (wr.setCell ⟨gh, m * 2 + 1, none⟩ (.int .i64 u.x)) (.slice (some ⟨gh, 0, none⟩) nH ch) (stepU u.n u.x (m + 1) H)) := by
                  have h1 : wr.ownsRow w.heap.size 44 2 (.slice (some ⟨gh, 0, none⟩) nH ch) nH (flatUs (stepU u.n u.x m H)) := by
                    have h0 : wr.ownsRow w.heap.size 44 2 (.slice (some ⟨gh, 0, none⟩) nH ch) (stepU u.n u.x m H).length (flatUs (stepU u.n u.x m H)) := HRW.out
                    rw [hsl] at h0
                    exact h0
                  have h2 := own_set h1 (m * 2 + 1) (.int .i64 u.x)
                  rw [flatUs_set (stepU_at hy) u.x] at h2
                  have h3 : stepU u.n u.x (m + 1) H = (stepU u.n u.x m H).set m ⟨y.n, u.x⟩ := by
                    rw [stepU_next hy]
                    simp [setU, e]
                  rw [← h3] at h2
                  show (wr.setCell ⟨gh, m * 2 + 1, none⟩ (.int .i64 u.x)).ownsRow _ _ _ _ (stepU u.n u.x (m + 1) H).length _
                  rw [stepU_len, HLEN.out]
                  exact h2
                have HH1 : Hid (Here w.heap.size (U + 1) w (wr.setCell ⟨gh, m * 2 + 1, none⟩ (.int .i64 u.x)) c s1) := by
                  obtain ⟨_, _, cur, hcur⟩ := own_type HRW.out gh rfl
                  exact HHR.out.far (setCell_kept _) (fun i hi _ => by cases hi; exact ⟨hgb, cur, _, hcur⟩) (by decide) (by decide) (Nat.le_refl _)
                clear hy hsl
                go_wp2_with fail
                go_quiet (fail)
                go_wp2_with fail
                exact ⟨⟨m + 1, by omega, by go_num, own_still HS1.out (Still.drewN _ nq) (by decide) (by decide) (by decide) (by decide), HH1.out.drewN nq⟩, by simp [intOf]; omega⟩
              · have he : (y.n == u.n) = false := by simpa using e
                have HS1 : Hid (stepU u.n u.x (m + 1) H = stepU u.n u.x m H) := stepU_same hy e
                clear hy hsl
                go_wp2_with fail
                go_quiet (fail)
                go_wp2_with fail
                exact ⟨⟨m + 1, by omega, by go_num, by rw [HS1.out]; exact own_still HRW.out (Still.drewN _ nq) (by decide) (by decide) (by decide) (by decide), HHR.out.drewN nq⟩, by simp [intOf]; omega⟩
            · have hmz : ¬ (m : Int) < (nH : Int) := by omega
              have HST : Hid (stepU u.n u.x m H = H.map (setU u.n u.x)) := by
                show _ = _
                unfold stepU
                rw [List.take_of_length_le (by have := HLEN.out; omega), List.drop_of_length_le (by have := HLEN.out; omega), List.append_nil]
              rw [HST.out] at hrow
              generalize hH1 : H.map (setU u.n u.x) = H1 at *
              have HL1 : Hid (H1.length = nH) := (show H1.length = nH by rw [← hH1]; simpa using HLEN.out)
              have HW1 : Hid (∀ u ∈ H1, (Lit.int .i64 u.n).wf = true) := by
                rw [← hH1]
                intro y hy
                obtain ⟨y', hy', rfl⟩ := List.mem_map.1 hy
                rw [setU_n]
                exact HWF.out y' hy'
              have HRW : Hid (NewUs w.heap.size wr (.slice ah nH ch) H1) := hrow
              have HHR : Hid (Here w.heap.size (U + 1) w wr c s1) := hhere
              clear hrow hhere HST hH1 HROW HE3 hml hm HWF HLEN
              have HCT := count_here HHR.out
              have hcl : ¬ (1 + (j : Int)) < (s1.L.length : Int) := by
                have h1 := HHR.out.facts.2.1
                have h2 := HPL.out
                omega
              go_wp2_with fail
              refine HCT.mono ?_
              rintro r w4 ⟨rfl, hw4⟩
              obtain rfl := hw4.symm
              clear HCT
              by_cases hn0 : nH = 0
              · have hnz : ¬ (0 : Int) < (nH : Int) := by omega
                clear hn0
                go_wp2_with fail
                exact ⟨⟨i + 1, H1, s1, U + 1, by omega, by go_num, ⟨HRW.out, HL1.out, HHR.out, HHB.out, HPL.out, by have := HFW.out; omega, HW1.out⟩⟩, by simp [intOf]; omega⟩
              · have hnz : (0 : Int) < (nH : Int) := by omega
                have hnz2 : ((nH : Int) == 0) = false := by rw [beq_eq_false_iff_ne]; omega
                obtain ⟨d, hd⟩ : ∃ d, d = i % nH := ⟨_, rfl⟩
                have hdl : d < nH := by rw [hd]; exact Nat.mod_lt _ (by omega)
                have hdz : (d : Int) < (nH : Int) := by omega
                have htm : (i : Int).tmod (nH : Int) = (d : Int) := by rw [Int.tmod_eq_emod_of_nonneg (by omega), hd]; rfl
                have hem : (i : Int) % (nH : Int) = (d : Int) := by rw [hd]; rfl
                obtain ⟨y, hy⟩ : ∃ y, H1[d]? = some y := ⟨_, List.getElem?_eq_getElem (by have := HL1.out; omega)⟩
                have hym : y ∈ H1 := List.mem_of_getElem? hy
                obtain ⟨gh, rfl, hgb, hgh, y0, y1, fy⟩ := us_cell (by rw [HL1.out]; exact HRW.out) hy
                have hwy := HW1.out y hym
                obtain ⟨t, ft, fx⟩ := HHB.out.found HHR.out.facts.1 (p := (y.n, vi y.x)) (List.mem_map.2 ⟨y, hym, rfl⟩)
                have HGT : Hid (Calls Try.prog 13 #[ptr c, .int .i64 y.n] wr fun r w' => r = .returned (.tuple #[.int .i64 y.x, .bool true]) ∧ Hid (Here w.heap.size (U + 1 + 1) w w' c (s1.get y.n) ∧ Still wr w')) := by
                  have h1 := get_here HHR.out (Nat.le_refl _) hwy (by omega)
                  have e1 : s1.tells y.n = .int .i64 y.x := by unfold Ca.tells; rw [show findT y.n s1.L = _ from ft]; exact fx
                  have e2 : s1.has y.n = true := by unfold Ca.has; rw [show findT y.n s1.L = _ from ft]; rfl
                  rw [e1, e2] at h1
                  exact h1
                have HGB : Hid (HeldBy (s1.get y.n) (pairs H1)) := HHB.out.get HHR.out.facts.1 y.n
                have HGP : Hid ((s1.get y.n).places = j + 1) := (getN_places s1 y.n).trans HPL.out
                have HXX : Hid (w.heap.size ≤ gh) := hgb
                clear hd hy ft fx hgb
                go_wp2_with fail
                refine Calls.mono HGT.out ?_
                rintro r w5 ⟨rfl, hq5⟩
                clear HGT
                have HR5 : Hid (NewUs w.heap.size w5 (.slice (some ⟨gh, 0, none⟩) nH ch) H1) := own_still HRW.out hq5.out.2 (by decide) (by decide) (by decide) (by decide)
                have z1 : w5.cell? ⟨gh, d * 2 + 1, none⟩ = some (.int .i64 y.x) := by
                  obtain ⟨_, _, cur, hcur⟩ := own_type HRW.out gh rfl
                  have h1 := hq5.out.2.is gh cur _ _ (by decide) (by decide) (by decide) (by decide) hcur
                  rw [row_cell h1, ← row_cell hcur]
                  exact y1
                go_wp2_with fail
                exact ⟨⟨i + 1, H1, s1.get y.n, U + 1 + 1, by omega, by go_num, ⟨HR5.out, HL1.out, hq5.out.1, HGB.out, HGP.out, by have := HFW.out; omega, HW1.out⟩⟩, by simp [intOf]; omega⟩
        · have hilz : ¬ (i : Int) < (L.length : Int) := by omega
          generalize hU7 : U = U1 at *
          clear hU7
          go_wp2_with fail
          go_loopw [19] (fun kv wx => ∃ (m : Nat) (s : Ca Value) (U : Nat), m ≤ nH ∧ kv = .int .i64 m ∧ Rel3 w.heap.size j c w wx m U1 nH (.slice ah nH ch) H s U) (fun kv _ => nH - (intOf kv).toNat)
          case atStart => exact ⟨0, s, U1, Nat.zero_le _, rfl, { HR.out with few := by omega }⟩
          case round =>
            obtain ⟨m, s1, U, hm, rfl, hR1⟩ := hrel
            have HR1 : Hid (Rel3 w.heap.size j c w wr m U1 nH (.slice ah nH ch) H s1 U) := hR1
            have hnl : nH ≤ 1099511627776 := by
              have h1 := HR.out.len
              have h2 := hR1.here.2
              have h3 := HNH.out
              omega
            have hU9 : U < 4611686018427387904 := by have := hR1.few; omega
            clear hR1
            by_cases hml : m < nH
            · have hmz : (m : Int) < (nH : Int) := by omega
              obtain ⟨y, hy⟩ : ∃ y, H[m]? = some y := ⟨_, List.getElem?_eq_getElem (by have := HR.out.len; omega)⟩
              have hym : y ∈ H := List.mem_of_getElem? hy
              obtain ⟨gh, rfl, hgb, hgh, y0, y1, fy⟩ := us_cell (by rw [HR1.out.len]; exact HR1.out.row) hy
              have hwy := HR1.out.wf y hym
              obtain ⟨t, ft, fx⟩ := HR1.out.held.found HR1.out.here.facts.1 (p := (y.n, vi y.x)) (List.mem_map.2 ⟨y, hym, rfl⟩)
              have HGT : Hid (Calls Try.prog 13 #[ptr c, .int .i64 y.n] wr fun r w' => r = .returned (.tuple #[.int .i64 y.x, .bool true]) ∧ Hid (Here w.heap.size (U + 1) w w' c (s1.get y.n) ∧ Still wr w')) := by
                have h1 := get_here HR1.out.here (Nat.le_refl _) hwy hU9
                have e1 : s1.tells y.n = .int .i64 y.x := by unfold Ca.tells; rw [show findT y.n s1.L = _ from ft]; exact fx
                have e2 : s1.has y.n = true := by unfold Ca.has; rw [show findT y.n s1.L = _ from ft]; rfl
                rw [e1, e2] at h1
                exact h1
              have HGB : Hid (HeldBy (s1.get y.n) (pairs H)) := HR1.out.held.get HR1.out.here.facts.1 y.n
              have HGP : Hid ((s1.get y.n).places = j + 1) := (getN_places s1 y.n).trans HR1.out.places
              clear hy ft fx hgb
              go_wp2_with fail
              refine Calls.mono HGT.out ?_
              rintro r w5 ⟨rfl, hq5⟩
              clear HGT
              have HR5 : Hid (NewUs w.heap.size w5 (.slice (some ⟨gh, 0, none⟩) nH ch) H) := own_still HR1.out.row hq5.out.2 (by decide) (by decide) (by decide) (by decide)
              have z1 : w5.cell? ⟨gh, m * 2 + 1, none⟩ = some (.int .i64 y.x) := by
                obtain ⟨_, _, cur, hcur⟩ := own_type HR1.out.row gh rfl
                have h1 := hq5.out.2.is gh cur _ _ (by decide) (by decide) (by decide) (by decide) hcur
                rw [row_cell h1, ← row_cell hcur]
                exact y1
              go_wp2_with fail
              exact ⟨⟨m + 1, s1.get y.n, U + 1, by omega, by go_num, ⟨HR5.out, HR1.out.len, hq5.out.1, HGB.out, HGP.out, by have := HR1.out.few; omega, HR1.out.wf⟩⟩, by simp [intOf]; omega⟩
            · have hmz : ¬ (m : Int) < (nH : Int) := by omega
              go_wp2_with fail
              go_ret
              exact ⟨rfl, HR1.out.here.2⟩
end Go.Proofs.Yteajgodpdfcioaa
