/- The document's Free: the walk. -/
import Derived.Test.YtcfmcakdgamdmaaRefHeldD
namespace Go.Proofs.Ytcfmcakdgamdmaa
open Go.RowKit

/-- What the document's Free leaves. -/
structure RFreePost (B : Nat) (w : World) (b : Nat) (v : Value) (L : List Lf) (S : List Int) (r : Ending) (w' : World) : Prop where
  is : ∃ vp v', r = .returned vp ∧ NewI w.heap.size w' vp (goneL L S) ∧ RefAt B w' b v' (leftL L S) ∧ Kept (fun k => k = b) w w' ∧ ∀ k, v'.ownBlock = some k → w.heap.size ≤ k
theorem rfree_end {B : Nat} {w w6 : World} {b : Nat} {v vp v6 : Value} {L : List Lf} {S : List Int} (h : RefAt B w b v L) (hB : B ≤ w.heap.size) (hb : Below w.heap.size w w6) (hn : NewL w.heap.size w6 v6 (leftL L S)) (hp : NewI w.heap.size w6 vp (goneL L S)) : RFreePost B w b v L S (.returned vp) (w6.setCell ⟨b, 0, none⟩ v6) := by
  have hk : w6.heap[b]? = some (.cells #[v] 73 (0, 0)) := (h.below hb).cells
  have hl := h.lt
  refine ⟨vp, v6, rfl, own_kept hp (setCell_kept v6) (fun i hi e => ?_), ⟨?_, ?_, h.low⟩, (Kept.of_below hb).trans (setCell_kept v6) (fun i _ hi => hi), fun k hk => (own_type hn k hk).2.1⟩
  · have := (own_type hp i hi).2.1
    omega
  · have := heap_set_same (i := 0) v6 hk
    simpa using this
  · exact own_mono (own_kept hn (setCell_kept v6) (fun i hi e => by have := (own_type hn i hi).2.1; omega)) hB
theorem any_step {S : List Int} {k : Nat} {s : Int} (y : Lf) (hs : S[k]? = some s) : anyL (S.take (k + 1)) y = (anyL (S.take k) y || needsL s y) := by
  unfold anyL
  rw [List.take_add_one, hs, List.any_append]
  simp
theorem any_take {S : List Int} {k : Nat} {y : Lf} (h : anyL (S.take k) y = true) : anyL S y = true := by
  unfold anyL at h ⊢
  rw [List.any_eq_true] at h ⊢
  obtain ⟨s, h1, h2⟩ := h
  exact ⟨s, List.mem_of_mem_take h1, h2⟩
theorem below_drew' {w w' : World} (h : Below w.drew.heap.size w.drew w') : Below w.heap.size w w' := (below_drew (Below.refl _ _)).trans h
theorem own_keepT {w w' : World} {base n s B : Nat} {T T' : TypeId} {v : Value} {xs : List Value} (h : w.ownsRow base T' s v n xs) (hk : Keep T B w w') (hT : T' ≠ T) : w'.ownsRow base T' s v n xs :=
  own_same h fun k hk2 _ => by
    obtain ⟨_, _, cur, hc⟩ := own_type h k hk2
    rw [hc]; exact hk.typ _ _ _ _ hT hc
set_option maxHeartbeats 3200000 in
set_option maxRecDepth 100000 in
theorem refFree_any {B : Nat} {w : World} {b : Nat} {v sv : Value} {L : List Lf} {S : List Int} (h : RefAt B w b v L) (hB : B ≤ w.heap.size) (hS : U64At w sv S) (hsh : L.length * 24 ≤ 140737488355328) (hs8 : S.length * 8 ≤ 140737488355328) :
    Calls Try.prog 41 #[.pointer (some ⟨b, 0, none⟩), sv] w fun r w' => RFreePost B w b v L S r w' := by
  have H : Hid _ := h
  have HS : Hid _ := hS
  obtain ⟨a, c, rfl⟩ := own_slice h.row
  obtain ⟨sa, sc, rfl⟩ := hS.form
  clear h hS
  go_enter Try.func41, Try.ntmps41
  go_wp2_with fail
  go_loopw [5, 6, 7] (fun x u i wx => ∃ k : Nat, k ≤ L.length ∧ i = .int .i64 k ∧ NewL w.heap.size wx x (leftL (L.take k) S) ∧ NewI w.heap.size wx u (goneL (L.take k) S) ∧ Below w.heap.size w wx) (fun _ _ i _ => L.length - (intOf i).toNat)
  case atStart => exact ⟨0, Nat.zero_le _, rfl, World.ownsRow_nil _ _ _ _, World.ownsRow_nil _ _ _ _, Below.refl _ _⟩
  case round =>
    obtain ⟨k, hk, rfl, hx, hu, hbl⟩ := hrel
    have c0 := (H.out.below hbl).cell
    have HB : Hid (Below w.heap.size w wr) := hbl
    have HX : Hid (NewL w.heap.size wr u5 (leftL (L.take k) S)) := hx
    have HU : Hid (NewI w.heap.size wr u6 (goneL (L.take k) S)) := hu
    by_cases hlt : k < L.length
    · have hltz : (k : Int) < (L.length : Int) := by omega
      obtain ⟨y, hy⟩ : ∃ y, L[k]? = some y := ⟨_, List.getElem?_eq_getElem hlt⟩
      have HY : Hid (L[k]? = some y) := hy
      obtain ⟨wi, rfl⟩ : ∃ wi, wi = wr := ⟨_, rfl⟩
      clear hx hu hbl hy
      go_wp2_with fail
      clear c0
      go_loopw [8, 9] (fun nd i wx => ∃ j : Nat, j ≤ S.length ∧ i = .int .i64 j ∧ nd = .bool (anyL (S.take j) y) ∧ Below wi.heap.size wi wx) (fun _ i _ => S.length - (intOf i).toNat)
      case atStart => exact ⟨0, Nat.zero_le _, rfl, rfl, Below.refl _ _⟩
      case round =>
        obtain ⟨j, hj, rfl, rfl, hbi⟩ := hrel
        have HBI : Hid (Below wi.heap.size wi wr) := hbi
        have HBR : Hid (Below w.heap.size w wr) := HB.out.trans (hbi.mono HB.out.size)
        have c0 := (H.out.below HBR.out).cell
        have hbb : b < wr.heap.size := (H.out.below HBR.out).lt
        obtain ⟨g, off, e1, hg, k0, k1, k2⟩ := lives_cell ((RowAt.own H.out.row).here HBR.out) HY.out
        subst e1
        generalize hnb : anyL (S.take j) y = nb at *
        by_cases hgo : j < S.length ∧ nb = false
        · obtain ⟨hjl, rfl⟩ := hgo
          have hjz : (j : Int) < (S.length : Int) := by omega
          obtain ⟨s, hs⟩ : ∃ s, S[j]? = some s := ⟨_, List.getElem?_eq_getElem hjl⟩
          obtain ⟨g2, off2, e2, hg2, m0⟩ := u64s_cell (HS.out.here HBR.out) hs
          subst e2
          have HNX : Hid (anyL (S.take (j + 1)) y = needsL s y) := by rw [Hid, any_step y hs, hnb]; rfl
          have HND : Hid (∀ W', Calls Try.prog 42 #[.int .u64 s, .agg #[.int .i64 y.p, .int .u64 y.b, .int .u64 y.d]] W' fun e w' => e = .returned (.bool (needsL s y)) ∧ Below W'.heap.size W' w') := fun W' => refNeeds_any W' s y
          clear hs hbi hnb
          go_wp2_with fail
          go_region_held_law (fun W' => W'.cell? ⟨b, 0, none⟩ = some (.slice (some ⟨g, off, none⟩) L.length c) ∧ W'.cell? ⟨g, off + k * 3, none⟩ = some (.int .i64 y.p) ∧ W'.cell? ⟨g, off + k * 3 + 1, none⟩ = some (.int .u64 y.b) ∧ W'.cell? ⟨g, off + k * 3 + 2, none⟩ = some (.int .u64 y.d) ∧ W'.cell? ⟨g2, off2 + j, none⟩ = some (.int .u64 s)) (first | (refine ⟨?_, ?_, ?_, ?_, ?_⟩ <;> with_reducible assumption) | (go_keep; done))
            (first
              | (go_at_call 42; refine Calls.mono (HND.out _) ?_
                 rintro e w3 ⟨rfl, hb3⟩
                 have n0 := (below_cell hb3 hbb).trans c0
                 have n1 := (below_cell hb3 hg).trans k0
                 have n2 := (below_cell hb3 hg).trans k1
                 have n3 := (below_cell hb3 hg).trans k2
                 have n4 := (below_cell hb3 hg2).trans m0
                 have HB3 : Hid (Below wr.heap.size wr w3) := below_drew' hb3
                 clear hb3))
          go_wp2_with fail
          exact ⟨⟨j + 1, by omega, by go_num, by rw [HNX.out], HBI.out.trans (HB3.out.mono HBI.out.size)⟩, by simp [intOf]; omega⟩
        · have HNB : Hid (anyL S y = nb) := by
            rw [Hid]
            cases nb with
            | true => exact any_take hnb
            | false =>
              rw [List.take_of_length_le (by have : ¬ j < S.length := fun h => hgo ⟨h, rfl⟩; omega)] at hnb
              exact hnb
          have hjz : (j : Int) < (S.length : Int) ∨ ¬ (j : Int) < (S.length : Int) := Classical.em _
          have HLS : Hid _ := left_step (S := S) HY.out
          have HGS : Hid _ := gone_step (S := S) HY.out
          have HXR : Hid (NewL w.heap.size wr u5 (leftL (L.take k) S)) := own_here HX.out hbi
          have HUR : Hid (NewI w.heap.size wr u6 (goneL (L.take k) S)) := own_here HU.out hbi
          have HSL : Hid _ := left_short L k S
          have HSG : Hid _ := gone_short L k S
          rw [HNB.out] at HLS HGS
          clear hnb hbi
          cases nb with
          | true =>
            rcases hjz with hjz | hjz
            all_goals
              go_wp2_with (first
                | (at_builtin
                   refine wpList_append_life rfl _ _ rfl w.heap.size u5 (leftL (L.take k) S) y rfl (own_here HXR.out (below_new _ _)) wr.heap.size rfl (heap_alloc_last wr _) (by have := HSL.out; omega) (Nat.le_trans HBR.out.size (below_new wr _).size) ?_
                   intro v5 w5 hv5 hg5 hk5
                   have HV5 : Hid (NewL w.heap.size w5 v5 (leftL (L.take k) S ++ [y])) := hv5
                   have HU5 : Hid (NewI w.heap.size w5 u6 (goneL (L.take k) S)) := own_keepT (own_here HUR.out (below_new _ _)) hk5 (by decide)
                   have HB5 : Hid (Below w.heap.size w w5) := (HBR.out.trans ((below_new wr _).mono HBR.out.size)).trans hk5.low
                   clear hv5 hg5 hk5))
              exact ⟨⟨k + 1, by omega, by go_num, by rw [HLS.out]; exact HV5.out, by rw [HGS.out]; exact HU5.out, HB5.out⟩, by simp [intOf]; omega⟩
          | false =>
            have hjz' : ¬ (j : Int) < (S.length : Int) := by
              have : ¬ j < S.length := fun h => hgo ⟨h, rfl⟩
              omega
            clear hjz hgo
            simp only [Bool.false_eq_true, if_false, List.append_nil] at HLS HGS
            have HRH : Hid (NewL w.heap.size wr u5 (leftL (L.take (k + 1)) S)) := by rw [HLS.out]; exact HXR.out
            generalize hG : goneL (L.take k) S = G at *
            clear hG
            obtain ⟨ua, uc, rfl⟩ := own_slice HUR.out
            by_cases hG0 : G.length = 0
            · have hGn : G = [] := List.eq_nil_of_length_eq_zero hG0
              have HGE : Hid (goneL (L.take (k + 1)) S = [] ++ [y.p]) := by have := HGS.out; rw [hGn] at this; rw [Hid]; simpa using this
              subst hGn
              have HU0 : Hid (NewI w.heap.size wr (.slice ua 0 uc) []) := HUR.out
              clear hG0 HGS HUR HSG
              go_wp2_with fail
              go_quiet (fail)
              obtain ⟨wq, hwq⟩ : ∃ wq, wq = wr.drewN nq := ⟨_, rfl⟩
              have HBQ : Hid (Below wr.heap.size wr wq) := by rw [hwq]; exact below_draws (Below.refl _ _) nq
              have d0 := (below_cell HBQ.out hbb).trans c0
              have e0 := (below_cell HBQ.out hg).trans k0
              have HBQ2 : Hid (Below w.heap.size w wq) := HBR.out.trans (HBQ.out.mono HBR.out.size)
              have HUQ : Hid (NewI w.heap.size wq (.slice ua 0 uc) ([] : List Int)) := own_here HU0.out HBQ.out
              have HXQ : Hid (NewL w.heap.size wq u5 (leftL (L.take (k + 1)) S)) := own_here HRH.out HBQ.out
              rw [← hwq]
              clear hwq c0 k0 k1 k2
              go_wp2_with (first
                | (at_builtin
                   refine wpList_append_int rfl _ _ rfl w.heap.size (.slice ua 0 uc) ([] : List Int) y.p rfl (own_here HUQ.out (below_new _ _)) wq.heap.size rfl (heap_alloc_last wq _) (by decide) (Nat.le_trans HBQ2.out.size (below_new wq _).size) ?_
                   intro v5 w5 hv5 _ hk5
                   have HV5 : Hid (NewI w.heap.size w5 v5 (([] : List Int) ++ [y.p])) := hv5
                   have HX5 : Hid (NewL w.heap.size w5 u5 (leftL (L.take (k + 1)) S)) := own_keepT (own_here HXQ.out (below_new _ _)) hk5 (by decide)
                   have HB5 : Hid (Below w.heap.size w w5) := (HBQ2.out.trans ((below_new wq _).mono HBQ2.out.size)).trans hk5.low
                   clear hv5 hk5))
              exact ⟨⟨k + 1, by omega, by go_num, HX5.out, by rw [HGE.out]; exact HV5.out, HB5.out⟩, by simp [intOf]; omega⟩
            · obtain ⟨n, hn⟩ : ∃ n, G.length = n + 1 := ⟨G.length - 1, by omega⟩
              obtain ⟨z, hz⟩ : ∃ z, G[n]? = some z := ⟨_, List.getElem?_eq_getElem (by omega)⟩
              have hlast : G.getLast? = some z := by rw [List.getLast?_eq_getElem?, hn]; exact hz
              rw [hlast] at HGS
              obtain ⟨g5, o5, e5, _, hc5⟩ := ints_cell (RowAt.own HUR.out) hz
              subst e5
              have HSG' : Hid (n < L.length) := by have := HSG.out; rw [Hid]; omega
              have hn1 : ((n : Int) + 1 == 0) = false := by rw [beq_eq_false_iff_ne]; omega
              have hn2 : (n : Int) + 1 - 1 = (n : Int) := by omega
              have hnb : (n : Int) ≤ 140737488355328 := by have := HSG'.out; omega
              have HUN : Hid (w.heap.size = w.heap.size ∧ ∀ W, wr.ownsRow w.heap.size 3 1 (.slice (some ⟨g5, o5, none⟩) G.length uc) G.length (G.map encI) → Below wr.heap.size wr W → NewI w.heap.size W (.slice (some ⟨g5, o5, none⟩) (n + 1) uc) G) := ⟨rfl, fun W h hb => by rw [← hn]; exact own_here h hb⟩
              have HUR2 : Hid (NewI w.heap.size wr (.slice (some ⟨g5, o5, none⟩) (n + 1) uc) G) := HUN.out.2 wr HUR.out (Below.refl _ _)
              rw [hn]
              have HGN : Hid (G.length = n + 1) := hn
              clear hn hz hlast HUR hG0 HSG HUN
              by_cases hzy : z = y.p
              · have HGE : Hid (goneL (L.take (k + 1)) S = G) := by have := HGS.out; rw [if_pos (by rw [hzy])] at this; exact this
                have hzb : (z != y.p) = false := by simpa using hzy
                clear hzy HGS
                go_wp2_with fail
                go_quiet (fail)
                obtain ⟨wq, hwq⟩ : ∃ wq, wq = wr.drewN nq := ⟨_, rfl⟩
                have HBQ : Hid (Below wr.heap.size wr wq) := by rw [hwq]; exact below_draws (Below.refl _ _) nq
                have d0 := (below_cell HBQ.out hbb).trans c0
                have e0 := (below_cell HBQ.out hg).trans k0
                have HBQ2 : Hid (Below w.heap.size w wq) := HBR.out.trans (HBQ.out.mono HBR.out.size)
                have HUQ : Hid (NewI w.heap.size wq (.slice (some ⟨g5, o5, none⟩) (n + 1) uc) G) := own_here HUR2.out HBQ.out
                have HXQ : Hid (NewL w.heap.size wq u5 (leftL (L.take (k + 1)) S)) := own_here HRH.out HBQ.out
                rw [← hwq]
                clear hwq c0 k0 k1 k2
                go_wp2_with fail
                exact ⟨⟨k + 1, by omega, by go_num, HXQ.out, by rw [HGE.out]; exact HUQ.out, HBQ2.out⟩, by simp [intOf]; omega⟩
              · have HGE : Hid (goneL (L.take (k + 1)) S = G ++ [y.p]) := by have := HGS.out; rw [if_neg (by simpa using hzy)] at this; exact this
                have hzb : (z != y.p) = true := by simpa using hzy
                clear hzy HGS
                go_wp2_with fail
                go_quiet (fail)
                obtain ⟨wq, hwq⟩ : ∃ wq, wq = wr.drewN nq := ⟨_, rfl⟩
                have HBQ : Hid (Below wr.heap.size wr wq) := by rw [hwq]; exact below_draws (Below.refl _ _) nq
                have d0 := (below_cell HBQ.out hbb).trans c0
                have e0 := (below_cell HBQ.out hg).trans k0
                have HBQ2 : Hid (Below w.heap.size w wq) := HBR.out.trans (HBQ.out.mono HBR.out.size)
                have HUQ : Hid (NewI w.heap.size wq (.slice (some ⟨g5, o5, none⟩) (n + 1) uc) G) := own_here HUR2.out HBQ.out
                have HXQ : Hid (NewL w.heap.size wq u5 (leftL (L.take (k + 1)) S)) := own_here HRH.out HBQ.out
                rw [← hwq]
                clear hwq c0 k0 k1 k2
                go_wp2_with (first
                  | (at_builtin
                     refine wpList_append_int rfl _ _ rfl w.heap.size (.slice (some ⟨g5, o5, none⟩) (n + 1) uc) G y.p rfl (own_here HUQ.out (below_new _ _)) wq.heap.size rfl (heap_alloc_last wq _) (by have := HSG'.out; have := HGN.out; omega) (Nat.le_trans HBQ2.out.size (below_new wq _).size) ?_
                     intro v5 w5 hv5 _ hk5
                     have HV5 : Hid (NewI w.heap.size w5 v5 (G ++ [y.p])) := hv5
                     have HX5 : Hid (NewL w.heap.size w5 u5 (leftL (L.take (k + 1)) S)) := own_keepT (own_here HXQ.out (below_new _ _)) hk5 (by decide)
                     have HB5 : Hid (Below w.heap.size w w5) := (HBQ2.out.trans ((below_new wq _).mono HBQ2.out.size)).trans hk5.low
                     clear hv5 hk5))
                exact ⟨⟨k + 1, by omega, by go_num, HX5.out, by rw [HGE.out]; exact HV5.out, HB5.out⟩, by simp [intOf]; omega⟩
    · have hltz : ¬ (k : Int) < (L.length : Int) := by omega
      have HE : Hid (L.take k = L) := List.take_of_length_le (by omega)
      rw [HE.out] at hu hx
      have HU : Hid _ := hu
      have HX : Hid _ := hx
      have f0 : wr.frozen? ⟨b, 0, none⟩ = false := row_frozen (H.out.below hbl).cells _
      clear hu hbl hx
      obtain ⟨xa, xc, rfl⟩ := own_slice HX.out
      obtain ⟨ua, uc, rfl⟩ := own_slice HU.out
      go_wp2_with fail
      go_ret
      exact rfree_end H.out hB HB.out HX.out HU.out
end Go.Proofs.Ytcfmcakdgamdmaa
