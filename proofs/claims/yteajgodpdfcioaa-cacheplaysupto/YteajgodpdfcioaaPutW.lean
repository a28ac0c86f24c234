/- Put. -/
import Derived.Test.YteajgodpdfcioaaPut
namespace Go.Proofs.Yteajgodpdfcioaa
open Go.RowKit Go.Maps

set_option maxHeartbeats 800000 in
set_option maxRecDepth 100000 in
theorem put_in {U : Nat} {own : Nat → Prop} {w : World} {c : Nat} {h : Hd} {A B : List Pl} {p : Pl} {D : DataW Value} {nx pv : Nat → Nat} (hc : CacheIs U w c h D (A ++ p :: B) nx pv) (ho : ∀ k, own k ↔ OwnOf c h (A ++ p :: B) k) {x : Value} (hx : IsT x) (hU : U < 4611686018427387904) :
    Calls Try.prog 14 #[ptr c, .int .i64 p.n, x] w fun r w' => r = .returned (.tuple #[.int .i64 0, .bool false]) ∧ Next U own w c ((h.ca (A ++ p :: B)).put p.n x) w' := by
  have hpm : p ∈ A ++ p :: B := by simp
  obtain ⟨a0, d0, hp0⟩ := hc.core.place hpm
  have hlook := look_in hc.map hpm (hc.wf p hpm)
  have c1 : w.cell? ⟨c, 1, none⟩ = some (.map (some h.m)) := by rw [row_cell hc.head]; rfl
  have b1 : w.cell? ⟨p.b, 1, none⟩ = some p.x := by rw [row_cell hp0]; rfl
  have fb1 : w.frozen? ⟨p.b, 1, none⟩ = false := row_frozen hp0 _
  obtain ⟨w1, hw1⟩ : ∃ w1, w1 = w.setCell ⟨p.b, 1, none⟩ x := ⟨_, rfl⟩
  have hcap := hc.ring.apart hc.head
  have hpb : p.b ≠ c := fun e => hcap (by rw [← e]; simp)
  have k1 : Core w1 c h (A ++ { p with x := x } :: B) := by
    obtain ⟨h1, ⟨nx, pv, hr⟩, F, R, hG, hF, hf⟩ := hc.core
    have hnd := hr.ring.nodup
    have hnd1 : (h.e :: A.map Pl.b ++ p.b :: B.map Pl.b).Nodup := by simpa using hnd
    obtain ⟨_, d2, d3⟩ := List.nodup_append.1 hnd1
    refine ⟨?_, ⟨nx, pv, ⟨fun q hq => ?_, by have := hr.ring; simpa using this⟩⟩, ?_⟩
    · show w1.heap[c]? = _
      rw [hw1, set_far _ (Ne.symm hpb)]
      exact h1
    · show w1.heap[q.b]? = _
      have hq' : q = { p with x := x } ∨ (q ∈ endP h.e :: (A ++ B)) := by simp at hq ⊢; grind
      rcases hq' with rfl | hq'
      · rw [hw1]
        exact (heap_set_same _ (hr.mem p (by simp))).trans (by simp [plc])
      · have hqb : q.b ≠ p.b := by
          intro e
          rcases List.mem_cons.1 hq' with rfl | hq'
          · exact d3 h.e (by simp) p.b (by simp) e
          · rcases List.mem_append.1 hq' with hq' | hq'
            · exact d3 q.b (List.mem_cons_of_mem _ (List.mem_map_of_mem hq')) p.b (by simp) e
            · exact (List.nodup_cons.1 d2).1 (e ▸ List.mem_map_of_mem hq')
        rw [hw1, set_far _ hqb]
        exact hr.mem q (by simp at hq' ⊢; grind)
    · rcases List.append_eq_append_iff.1 hG with ⟨a', hF', hR⟩ | ⟨c', hA, hR⟩
      · cases a' with
        | nil =>
          simp at hF' hR
          subst hF' hR
          exact ⟨F, _, rfl, hF, hf⟩
        | cons q a'' =>
          simp at hR
          obtain ⟨rfl, rfl⟩ := hR
          refine ⟨A ++ { p with x := x } :: a'', R, by simp, fun q hq => ?_, hf⟩
          rw [hF'] at hF
          simp at hq
          rcases hq with hq | rfl | hq
          · exact hF q (by simp [hq])
          · exact hF p (by simp)
          · exact hF q (by simp [hq])
      · subst hA hR
        refine ⟨F, c' ++ { p with x := x } :: B, by simp, hF, ?_⟩
        rw [hf]
        simp
  have HU0 := use_any (p := { p with x := x }) k1 (by have := hc.caps.1; omega)
  have HU : Hid (Calls Try.prog 31 #[ptr c, ptr p.b] w1 _) := HU0
  clear HU0
  have HFN : Hid (∀ w' f', Core w' c { h with uses := h.uses + 1, f := f' } (A ++ B ++ [{ p with x := x, used := h.uses + 1 }]) → Kept (fun i => i = c ∨ i ∈ h.e :: (A ++ p :: B).map Pl.b) w1 w' → Next U own w c ((h.ca (A ++ p :: B)).put p.n x) w') := fun w' f' kc hk => by
    have hkw : Kept (fun i => i = c ∨ i ∈ h.e :: (A ++ p :: B).map Pl.b) w w' := by
      rw [hw1] at hk
      exact ((setCell_kept _).mono (fun i _ e => .inr (by rw [e]; simp))).trans hk (fun _ _ e => e)
    have hres := next_moved hc ho kc rfl rfl rfl rfl ⟨by have := hc.caps.2.1; show h.hits ≤ U + 1; omega, by have := hc.caps.2.2.1; show h.misses ≤ U + 1; omega⟩ rfl rfl hx (by have := hc.caps.2.2.2 p hpm; show p.pins ≤ U + 1; omega) rfl hkw
    obtain ⟨f1, f2, _⟩ := find_at hc.nums
    have e1 : (h.ca (A ++ p :: B)).put p.n x = Hd.ca { h with uses := h.uses + 1, f := f' } (A ++ B ++ [{ p with x := x, used := h.uses + 1 }]) := by
      unfold Ca.put
      rw [show (h.ca (A ++ p :: B)).L = (A ++ p :: B).map Pl.th from rfl, f1, f2]
      simp [Hd.ca, Pl.th]
    rw [e1]
    exact hres
  clear hc k1 hp0 hcap ho
  obtain ⟨z, rfl⟩ := hx
  go_enter Try.func14, Try.ntmps14
  go_upto_region 4 with fail
  rw [← hw1]
  clear hw1
  go_wp2_with fail
  refine Calls.mono HU.out ?_
  rintro r w2 ⟨rfl, ⟨f', k2⟩, hk2⟩
  have HR := HFN.out w2 f' k2 (hk2.mono (fun i _ e => by simpa using e))
  have HRR : Hid (Next _ _ _ _ _ _) := HR
  clear HU HR k2 hk2 HFN
  go_wp2_with fail
  go_ret2
  exact ⟨rfl, HRR.out⟩

theorem drewN_own (w : World) (q : Nat) : ∀ i : Nat, (w.drewN q).heap[i]? = w.heap[i]? := fun _ => rfl
theorem kept_drewN {S : Nat → Prop} {w w' : World} {q : Nat} (h : Kept S (w.drewN q) w') : Kept S w w' := ⟨h.os, h.tape, h.output, h.size, h.block⟩
set_option maxHeartbeats 800000 in
set_option maxRecDepth 100000 in
theorem put_add {U : Nat} {own : Nat → Prop} {w : World} {c : Nat} {h : Hd} {G : List Pl} {D : DataW Value} {nx pv : Nat → Nat} (hc : CacheIs U w c h D G nx pv) (ho : ∀ k, own k ↔ OwnOf c h G k) {n : Int} (hn : (Lit.int .i64 n).wf = true) (hno : ∀ q ∈ G, q.n ≠ n) (hr : G.length < h.places) {x : Value} (hx : IsT x) (hU : U < 4611686018427387904) :
    Calls Try.prog 14 #[ptr c, .int .i64 n, x] w fun r w' => r = .returned (.tuple #[.int .i64 0, .bool false]) ∧ Next U own w c ((h.ca G).put n x) w' := by
  have hlook := look_out hc.map hno hn
  have c0 : w.cell? ⟨c, 0, none⟩ = some (.int .i64 (h.places : Int)) := by rw [row_cell hc.head]; rfl
  have c1 : w.cell? ⟨c, 1, none⟩ = some (.map (some h.m)) := by rw [row_cell hc.head]; rfl
  have HC : Hid (∀ q, Calls Try.prog 17 #[ptr c] (w.drewN q) fun e w' => e = .returned (.int .i64 (G.length : Int)) ∧ w' = w.drewN q) := fun q => count_walk (hc.map.same (drewN_own w q _)) (by rw [row_cell (w := w.drewN q) hc.head]; rfl)
  have HA : Hid (∀ q, Calls Try.prog 32 #[ptr c, .int .i64 n, x] (w.drewN q) fun r w' => r = .returned (.tuple #[]) ∧ Hid (Next U own w c ((h.ca G).put n x) w')) := fun q => by
    have hcq := hc.same (w' := w.drewN q) (fun i _ => rfl)
    refine (add_any hcq.core hcq.map hno hn hx (by have := hc.caps.1; omega) (by have := hc.places.2; omega)).mono ?_
    rintro r w' ⟨rfl, ⟨f', k1⟩, ⟨D', m1⟩, hk⟩
    refine ⟨rfl, ?_⟩
    have hres := next_added (p := ⟨w.heap.size, n, x, 0, h.uses + 1⟩) hc ho (List.Sublist.refl G) k1 m1 rfl rfl rfl rfl ⟨rfl, rfl⟩ hno hn (Nat.le_refl _) hx rfl rfl hr (kept_drewN hk)
    have e1 : (h.ca G).put n x = Hd.ca { h with uses := h.uses + 1, f := f' } (G ++ [⟨w.heap.size, n, x, 0, h.uses + 1⟩]) := by
      unfold Ca.put
      rw [show (h.ca G).L = G.map Pl.th from rfl, find_not hno]
      simp [Hd.ca, Pl.th, hr]
    rw [e1]
    exact hres
  have hrz : (G.length : Int) < (h.places : Int) := by omega
  clear hc ho hno hr
  obtain ⟨z, rfl⟩ := hx
  go_enter Try.func14, Try.ntmps14
  go_wp2_with fail
  go_quiet ((go_at_call 17; exact Calls.quiet_of_same (HC.out _)))
  go_wp2_with fail
  refine (HA.out _).mono ?_
  rintro r w' ⟨rfl, hR⟩
  clear HA HC
  go_wp2_with fail
  go_ret2
  exact ⟨rfl, hR.out⟩
set_option maxHeartbeats 800000 in
set_option maxRecDepth 100000 in
theorem put_full {U : Nat} {own : Nat → Prop} {w : World} {c : Nat} {h : Hd} {G : List Pl} {D : DataW Value} {nx pv : Nat → Nat} (hc : CacheIs U w c h D G nx pv) (ho : ∀ k, own k ↔ OwnOf c h G k) {n : Int} (hn : (Lit.int .i64 n).wf = true) (hno : ∀ q ∈ G, q.n ≠ n) (hr : ¬ G.length < h.places) {x : Value} (hx : IsT x) (hU : U < 4611686018427387904) :
    Calls Try.prog 14 #[ptr c, .int .i64 n, x] w fun r w' => r = .returned (.tuple #[.int .i64 ((h.ca G).went n).1, .bool ((h.ca G).went n).2]) ∧ Next U own w c ((h.ca G).put n x) w' := by
  have hlook := look_out hc.map hno hn
  have c0 : w.cell? ⟨c, 0, none⟩ = some (.int .i64 (h.places : Int)) := by rw [row_cell hc.head]; rfl
  have c1 : w.cell? ⟨c, 1, none⟩ = some (.map (some h.m)) := by rw [row_cell hc.head]; rfl
  have HC : Hid (∀ q, Calls Try.prog 17 #[ptr c] (w.drewN q) fun e w' => e = .returned (.int .i64 (G.length : Int)) ∧ w' = w.drewN q) := fun q => count_walk (hc.map.same (drewN_own w q _)) (by rw [row_cell (w := w.drewN q) hc.head]; rfl)
  have HCI : Hid (∀ q, CacheIs U (w.drewN q) c h D G nx pv) := fun q => hc.same (w' := w.drewN q) (fun i _ => rfl)
  have HP : Hid ((looseT (G.map Pl.th) = none → (h.ca G).put n x = h.ca G) ∧ ∀ t, looseT (G.map Pl.th) = some t → (h.ca G).put n x = { h.ca G with L := outT t.n (G.map Pl.th) ++ [⟨n, x, 0⟩] }) := by
    refine ⟨fun hl => ?_, fun t hl => ?_⟩ <;>
    · unfold Ca.put
      rw [show (h.ca G).L = G.map Pl.th from rfl, find_not hno]
      simp [Hd.ca, hr, hl]
  have HW : Hid ((looseT (G.map Pl.th) = none → (h.ca G).went n = (n, true)) ∧ ∀ t, looseT (G.map Pl.th) = some t → (h.ca G).went n = (t.n, true)) := by
    refine ⟨fun hl => ?_, fun t hl => ?_⟩ <;>
    · unfold Ca.went
      rw [show (h.ca G).L = G.map Pl.th from rfl, find_not hno]
      simp [Hd.ca, hr, hl]
  have hrz : ¬ (G.length : Int) < (h.places : Int) := by omega
  have HO : Hid (∀ k, own k ↔ OwnOf c h G k) := ho
  have HX : Hid (IsT x) := hx
  have HNO : Hid (∀ q ∈ G, q.n ≠ n) := hno
  have HCC : Hid (CacheIs U w c h D G nx pv) := hc
  have HRM : Hid (G.length ≤ h.places ∧ 0 < h.places ∧ ¬ G.length < h.places) := ⟨hc.room, hc.places.1, hr⟩
  have hu2 : h.uses < 4611686018427387904 := by have := hc.caps.1; omega
  have hl2 : h.places ≤ 65536 := hc.places.2
  clear hc ho hno hr
  obtain ⟨z, rfl⟩ := hx
  go_enter Try.func14, Try.ntmps14
  go_wp2_with fail
  go_quiet ((go_at_call 17; exact Calls.quiet_of_same (HC.out _)))
  go_wp2_with fail
  have hcq := HCI.out nq
  refine (firstLoose_any hcq.core).mono ?_
  rintro r w1 ⟨F, R, rfl, hl, hcase⟩
  have k1 := hl.core hcq.core
  have m1 := hcq.map.same (hl.far h.m (fun e => hcq.map.apart hcq.core (.inl e)))
  have kk1 := kept_drewN hl.kept
  have c2 : w1.cell? ⟨c, 2, none⟩ = some (ptr h.e) := by rw [row_cell k1.1]; rfl
  rcases hcase with rfl | ⟨q, R, rfl, hq0⟩
  · have hG : G = F := by simpa using hl.is
    have hl0 : looseT (G.map Pl.th) = none := by rw [hG]; exact loose_not hl.held
    have HE : Hid (Next U own w c ((h.ca G).put n (.int .i64 z)) w1) := by
      rw [HP.out.1 hl0]
      have hres := next_head HCC.out HO.out k1 rfl rfl rfl rfl ⟨by have := HCC.out.caps.2.1; show h.hits ≤ U + 1; omega, by have := HCC.out.caps.2.2.1; show h.misses ≤ U + 1; omega⟩ kk1
      exact hres
    have HWW : Hid ((h.ca G).went n = (n, true)) := by
      exact HW.out.1 hl0
    have q1 := ptr_same w1 h.e
    have q2 : fstB h.e (([] : List Pl).map Pl.b) = h.e := rfl
    rw [q2]
    clear q2 HCI HP HW HC hcq hl k1 m1 kk1 hl0 hG HNO
    go_wp2_with fail
    go_ret2
    rw [HWW.out]
    exact ⟨rfl, HE.out⟩
  · have hG : G = F ++ q :: R := hl.is
    have hqm : q ∈ G := by rw [hG]; simp
    have hl0 : looseT (G.map Pl.th) = some q.th := by rw [hG]; exact loose_at hl.held hq0
    have HWW : Hid ((h.ca G).went n = (q.n, true)) := by
      exact HW.out.2 _ hl0
    have hnum := HCC.out.nums
    have hwq := HCC.out.wf q hqm
    rw [hG] at hnum
    obtain ⟨_, fo, fne⟩ := find_at hnum
    have HPP : Hid ((h.ca G).put n (.int .i64 z) = { h.ca G with L := (F ++ R).map Pl.th ++ [⟨n, (.int .i64 z), 0⟩] }) := by
      show _ = _
      rw [HP.out.2 _ hl0]
      show ({ h.ca G with L := outT q.n (G.map Pl.th) ++ _ } : Ca Value) = _
      rw [hG, fo]
    have gq : ∃ cur, w1.heap[q.b]? = some (.cells cur 68 (0, 0)) := by
      obtain ⟨a, d, hp⟩ := k1.place hqm
      exact ⟨_, hp⟩
    have ge : ∃ cur, w1.heap[h.e]? = some (.cells cur 68 (0, 0)) := by
      obtain ⟨_, ⟨nx1, pv1, hr1⟩, _⟩ := k1
      exact hr1.blocks (by simp)
    have hqe : q.b ≠ h.e := fun e => by
      have := k1.nodup
      simp only [hG, List.map_append, List.map_cons] at this
      rw [← e] at this
      simp at this
    obtain ⟨_, gq⟩ := gq
    obtain ⟨_, ge⟩ := ge
    have q1 := ptr_other gq ge hqe
    have HRV : Hid (Calls Try.prog 34 #[ptr c, ptr q.b] w1 fun r w' => r = .returned (.tuple #[]) ∧ (∃ f', Core w' c { h with f := f' } (F ++ R)) ∧ (∃ D', MapOf w' h.m D' (F ++ R)) ∧ (∃ a d, PlAt w' q a d) ∧ Kept (fun i => i = h.m ∨ i = c ∨ i ∈ h.e :: G.map Pl.b) w1 w') := by
      rw [hG] at k1 m1 ⊢
      have hrm := remove_any k1 m1 hnum hwq
      exact hrm
    have HK1 : Hid (Kept (fun i => i = c) w w1) := kk1
    have HSUB : Hid ((F ++ R).Sublist G) := by rw [hG]; exact List.Sublist.append_left (List.sublist_cons_self _ _) _
    have HLEN : Hid ((F ++ R).length < h.places) := by
      have := HRM.out.1
      rw [hG] at this
      show _ < _
      simp at this ⊢
      omega
    have HN1 : Hid (∀ t ∈ F ++ R, t.n ≠ n) := fun t ht => HNO.out t (by rw [hG]; simp at ht ⊢; grind)
    have q2 : fstB h.e ((q :: R).map Pl.b) = q.b := rfl
    rw [q2]
    clear q2 HCI HP HW HC hcq hl k1 m1 kk1 hl0 gq ge fo fne hnum
    have HGG : Hid (G = F ++ q :: R) := hG
    clear hG hqm
    go_wp2_with fail
    refine Calls.mono HRV.out ?_
    rintro r w2 ⟨rfl, ⟨f2, k2⟩, ⟨D2, m2⟩, ⟨a2, d2, hp2⟩, kk2⟩
    have HK2 : Hid (Kept (fun i => i = h.m ∨ i = c ∨ i ∈ h.e :: G.map Pl.b) w1 w2) := kk2
    have hqw : q.b < w2.heap.size := (Array.getElem?_eq_some_iff.1 hp2).1
    have HPL : Hid (PlAt w2 q a2 d2) := hp2
    have HAD := add_any k2 m2 HN1.out hn HX.out hu2 (by have := HLEN.out; omega)
    have HQ : Hid (q.b ∉ h.e :: (F ++ R).map Pl.b ∧ q.b ≠ c ∧ q.b ≠ h.m) := by
      have n1 := HCC.out.core.nodup
      have a1 := HCC.out.map.apart HCC.out.core
      have a2 := HCC.out.ring.apart HCC.out.head
      have e1 := HGG.out
      have hqb : q.b ∈ h.e :: G.map Pl.b := by rw [e1]; simp
      refine ⟨?_, fun e => a2 (e ▸ hqb), fun e => a1 (.inr (e ▸ hqb))⟩
      rw [e1] at n1
      have h1 : (h.e :: F.map Pl.b ++ q.b :: R.map Pl.b).Nodup := by simpa using n1
      obtain ⟨_, d2, d3⟩ := List.nodup_append.1 h1
      intro hm
      simp only [List.map_append, List.mem_cons, List.mem_append] at hm
      rcases hm with hm | hm | hm
      · exact d3 h.e (by simp) q.b (by simp) hm.symm
      · exact d3 q.b (List.mem_cons_of_mem _ hm) q.b (by simp) rfl
      · exact (List.nodup_cons.1 d2).1 hm
    clear HRV k2 m2 hp2 kk2
    go_wp2_with fail
    refine Calls.mono HAD ?_
    rintro r w3 ⟨rfl, ⟨f3, k3⟩, ⟨D3, m3⟩, kk3⟩
    clear HAD
    have hp3 : w3.heap[q.b]? = _ := (kk3.block q.b hqw (by rintro (e | e | e); exact HQ.out.2.2 e; exact HQ.out.2.1 e; exact HQ.out.1 e)).trans HPL.out
    have b0 : w3.cell? ⟨q.b, 0, none⟩ = some (.int .i64 q.n) := by rw [row_cell hp3]; rfl
    have hkall : Kept (fun i => i = h.m ∨ i = c ∨ i ∈ h.e :: G.map Pl.b) w w3 := by
      refine ((Kept.mono HK1.out (fun i _ e => .inr (.inl e))).trans HK2.out (fun _ _ e => e)).trans kk3 ?_
      rintro i _ (e | e | e)
      · exact .inl e
      · exact .inr (.inl e)
      · refine .inr (.inr ?_)
        have : (h.e :: (F ++ R).map Pl.b).Sublist (h.e :: G.map Pl.b) := List.Sublist.cons_cons _ (HSUB.out.map _)
        exact this.subset e
    have hsz : w.heap.size ≤ w2.heap.size := Nat.le_trans HK1.out.size HK2.out.size
    have HE : Hid (Next U own w c ((h.ca G).put n (.int .i64 z)) w3) := by
      have hres := next_added (p := ⟨w2.heap.size, n, (.int .i64 z), 0, h.uses + 1⟩) HCC.out HO.out HSUB.out k3 m3 rfl rfl rfl rfl ⟨rfl, rfl⟩ HN1.out hn hsz HX.out rfl rfl HLEN.out hkall
      rw [HPP.out]
      show Next _ _ _ _ _ _
      simpa [Hd.ca, Pl.th] using hres
    clear k3 m3 kk3 hp3 hkall
    go_wp2_with fail
    go_ret2
    rw [HWW.out]
    exact ⟨rfl, HE.out⟩
theorem put_any {U : Nat} {own : Nat → Prop} {w : World} {c : Nat} {s : Ca Value} (h : CacheAt U own w c s) {n : Int} (hn : (Lit.int .i64 n).wf = true) {x : Value} (hx : IsT x) (hU : U < 4611686018427387904) :
    Calls Try.prog 14 #[ptr c, .int .i64 n, x] w fun r w' => r = .returned (.tuple #[.int .i64 (s.went n).1, .bool (s.went n).2]) ∧ Next U own w c (s.put n x) w' := by
  obtain ⟨h, D, G, nx, pv, hc, rfl, ho⟩ := h
  rcases or_in G n with ⟨A, p, B, rfl, rfl⟩ | hno
  · have e : (h.ca (A ++ p :: B)).went p.n = (0, false) := by
      unfold Ca.went
      rw [show (h.ca (A ++ p :: B)).L = (A ++ p :: B).map Pl.th from rfl, (find_at hc.nums).1]
    rw [e]
    exact put_in hc ho hx hU
  · by_cases hr : G.length < h.places
    · have e : (h.ca G).went n = (0, false) := by
        unfold Ca.went
        rw [show (h.ca G).L = G.map Pl.th from rfl, find_not hno]
        simp [Hd.ca, hr]
      rw [e]
      exact put_add hc ho hn hno hr hx hU
    · exact put_full hc ho hn hno hr hx hU
end Go.Proofs.Yteajgodpdfcioaa
