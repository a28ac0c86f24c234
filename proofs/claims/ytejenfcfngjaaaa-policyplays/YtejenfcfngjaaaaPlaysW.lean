/- The law PolicyPlays, walked. -/
import Derived.Test.YtejenfcfngjaaaaPlaysA
import Derived.Deep.DeepCutAuto
import Derived.Deep.CutBlock
namespace Go.Proofs.Ytejenfcfngjaaaa
open Go.RowKit

theorem ChT.far {T : TypeId} {base : Nat} {w w' : World} {b g : Nat} {v : Value} {c : Ch} (h : ChT T base w b v c) (hk : Kept (fun k => k = g) w w') (hg : g < base) : ChT T base w' b v c :=
  ⟨by rw [hk.block b h.lt (fun e => by have := h.low; omega)]; exact h.cells, own_kept h.row hk (fun k hk e => by have := (own_type h.row k hk).2.1; omega), h.low, h.ok⟩
theorem ChT.mono {T : TypeId} {base base' : Nat} {w : World} {b : Nat} {v : Value} {c : Ch} (h : ChT T base w b v c) (hb : base' ≤ base) : ChT T base' w b v c := ⟨h.cells, own_mono h.row hb, Nat.le_trans hb h.low, h.ok⟩
theorem kept_cell {w w' : World} {g b i : Nat} {v : Value} (hk : Kept (fun k => k = g) w w') (hb : b ≠ g) (h : w.cell? ⟨b, i, none⟩ = some v) : w'.cell? ⟨b, i, none⟩ = some v := by
  have hl := World.block_lt_of_cell? _ _ h
  have e : w'.heap[b]? = w.heap[b]? := hk.block b hl hb
  unfold World.cell? at h ⊢
  rw [e]
  exact h
theorem kept_row {w w' : World} {g b : Nat} {T : List Int} (hk : Kept (fun k => k = g) w w') (hb : b ≠ g) (h : RowI w b T) : RowI w' b T := by
  unfold RowI
  rw [hk.block b (RowI.lt h) hb]
  exact h
theorem IntsIn.at_ {w w' : World} {v : Value} {L : List Int} (h : IntsIn w v L) (hb : Below w.heap.size w w') : IntsAt w' v L := h.row.here hb
theorem wrap2 (z : Int) (h0 : -9223372036854775808 ≤ z) (h1 : z ≤ 9223372036854775807) : IntKind.i64.wrap z = z := IntWalk.i64_in _ ⟨h0, h1⟩
set_option maxHeartbeats 3200000 in
set_option maxRecDepth 100000 in
theorem policyPlays_any {w : World} {v0 v1 : Value} {L A : List Kv} (hL : KvsIn w v0 L) (hA : KvsIn w v1 A) :
    Calls Try.prog 4 #[v0, v1] w fun e w' => e = .returned (.bool true) ∧ Below w.heap.size w w' := by
  have HSH := shown_any w
  obtain ⟨⟨a0, c0, rfl, -⟩, hLs⟩ := id hL
  obtain ⟨⟨a1, c1, rfl, -⟩, hAs⟩ := id hA
  have HL : Hid (KvsIn w (.slice a0 L.length c0) L) := hL
  have HA : Hid (KvsIn w (.slice a1 A.length c1) A) := hA
  clear hL hA
  go_enter Try.func4, Try.ntmps4
  go_wp2_with fail
  refine HSH.mono ?_
  rintro e w1 ⟨rfl, hb⟩
  have HB1 : Hid _ := hb
  clear hb HSH
  go_wp2_with fail
  go_loop [6, 7] (fun g i => ∃ (k n : Nat), k ≤ L.length ∧ i = .int .i64 (k : Int) ∧ g = .int .i64 (n : Int) ∧ n ≤ 100000000000000) (fun _ i => L.length - (intOf i).toNat)
  case atStart => exact ⟨0, 0, Nat.zero_le _, rfl, rfl, by decide⟩
  case round =>
    obtain ⟨k, n, hk, rfl, rfl, hn⟩ := hrel
    by_cases hgo : k < L.length ∧ n ≤ 2147483647
    · obtain ⟨hlt, hnb⟩ := hgo
      have hltz : (k : Int) < (L.length : Int) := by omega
      have hnbz : (n : Int) ≤ 2147483647 := by omega
      obtain ⟨o, ho⟩ : ∃ o, L[k]? = some o := ⟨_, List.getElem?_eq_getElem hlt⟩
      obtain ⟨g, off, rfl, hg, hkv⟩ := kvs_cell (HL.out.here HB1.out) ho
      have d1 := hkv.c1
      have hsh := hkv.row.short
      obtain ⟨ao, co, eo⟩ := hkv.row.row.form
      rw [eo] at d1
      clear hkv ho eo
      go_wp2_with fail
      exact ⟨⟨k + 1, n + 1 + o.P.length, by omega, by go_num, by go_num, by omega⟩, by simp [intOf]; omega⟩
    · by_cases hnb : n ≤ 2147483647
      · have hltz : ¬ (k : Int) < (L.length : Int) := by omega
        have hnbz : (n : Int) ≤ 2147483647 := by omega
        clear hgo
        go_wp2_with fail
        go_loop [6, 8] (fun g i => ∃ (j m : Nat), j ≤ A.length ∧ i = .int .i64 (j : Int) ∧ g = .int .i64 (m : Int) ∧ m ≤ 100000000000000) (fun _ i => A.length - (intOf i).toNat)
        case atStart => exact ⟨0, n, Nat.zero_le _, rfl, rfl, by omega⟩
        case round =>
          obtain ⟨j, m, hj, rfl, rfl, hm⟩ := hrel
          by_cases hgo : j < A.length ∧ m ≤ 2147483647
          · obtain ⟨hlt, hmb⟩ := hgo
            have hltz2 : (j : Int) < (A.length : Int) := by omega
            have hmbz : (m : Int) ≤ 2147483647 := by omega
            obtain ⟨o, ho⟩ : ∃ o, A[j]? = some o := ⟨_, List.getElem?_eq_getElem hlt⟩
            obtain ⟨g, off, rfl, hg, hkv⟩ := kvs_cell (HA.out.here HB1.out) ho
            have d1 := hkv.c1
            have hsh := hkv.row.short
            obtain ⟨ao, co, eo⟩ := hkv.row.row.form
            rw [eo] at d1
            clear hkv ho eo
            go_wp2_with fail
            exact ⟨⟨j + 1, m + 1 + o.P.length, by omega, by go_num, by go_num, by omega⟩, by simp [intOf]; omega⟩
          · by_cases hmb : m ≤ 2147483647
            · have hltz2 : ¬ (j : Int) < (A.length : Int) := by omega
              have hmbz : (m : Int) ≤ 2147483647 := by omega
              have hmbz2 : ¬ (m : Int) > 2147483647 := by omega
              clear hgo
              go_wp2_with fail
              have HPP0 : Hid (PP w w1 (.slice none 0 0) (.slice none 0 0) []) := ⟨World.ownsRow_nil _ _ _ _, World.ownsRow_nil _ _ _ _, (fun s h => by cases h), by simp, by simp, HB1.out⟩
              clear hltz hltz2 hnbz hmbz hmbz2
              go_loopw [9, 10, 11] (fun lv rv i wr => ∃ (k : Nat) (S : List It), k ≤ L.length ∧ i = .int .i64 (k : Int) ∧ PP w wr lv rv S ∧ S.length ≤ k ∧ ∀ s ∈ S, s.c.count = 0) (fun _ _ i _ => L.length - (intOf i).toNat)
              case atStart => exact ⟨0, [], Nat.zero_le _, rfl, HPP0.out, Nat.le_refl _, fun s h => by cases h⟩
              case round =>
                obtain ⟨k, S, hk, rfl, hpp, hSk, hS0⟩ := hrel
                obtain ⟨wo, rfl⟩ : ∃ wo, wo = wr := ⟨_, rfl⟩
                have HPP : Hid _ := hpp
                have HS0 : Hid _ := hS0
                obtain ⟨al, cl, rfl⟩ := own_slice hpp.l
                obtain ⟨ar, cr, rfl⟩ := own_slice hpp.r
                by_cases hlt : k < L.length
                · have hltz : (k : Int) < (L.length : Int) := by omega
                  obtain ⟨o, ho⟩ : ∃ o, L[k]? = some o := ⟨_, List.getElem?_eq_getElem hlt⟩
                  obtain ⟨g, off, rfl, hg, hkv⟩ := kvs_cell (HL.out.here hpp.low) ho
                  obtain ⟨kind, pv, P⟩ := o
                  have d0 := hkv.c0
                  have d1 := hkv.c1
                  have hsh := hkv.row.short
                  have hrw := hkv.row
                  dsimp only at d0 d1 hsh hrw
                  obtain ⟨ao, co, eo⟩ := hrw.row.form
                  subst eo
                  have HR : Hid (IntsIn wo (.slice ao P.length co) P) := hrw
                  obtain ⟨wa, hwa⟩ : ∃ wa, wa = wo.alloc (.cells #[.int .i64 kind, .slice ao P.length co] 28) := ⟨_, rfl⟩
                  have HBA : Hid (Below wo.heap.size wo wa) := by rw [hwa]; exact below_new _ _
                  have hza : wa.heap.size = wo.heap.size + 1 := by rw [hwa]; simp
                  have hpx : wa.heap[wo.heap.size]? = some (.cells #[.int .i64 kind, .slice ao P.length co] 28 (0, 0)) := by rw [hwa]; exact heap_alloc_last wo _
                  have p0 : wa.cell? ⟨wo.heap.size, 0, none⟩ = some (.int .i64 kind) := by rw [row_cell hpx]; rfl
                  have p1 : wa.cell? ⟨wo.heap.size, 1, none⟩ = some (.slice ao P.length co) := by rw [row_cell hpx]; rfl
                  have HPX : Hid _ := hpx
                  have HZA : Hid _ := hza
                  have HLE := lent_any (HR.out.here HBA.out).row (by omega)
                  clear hpp hS0 hkv hrw ho hpx hza
                  go_upto_region 19 with fail
                  rw [← hwa]
                  clear hwa
                  go_wp2_with fail
                  refine Calls.mono HLE ?_
                  rintro e wb ⟨rfl, hrb, hbb⟩
                  obtain ⟨gx, hgx⟩ : ∃ gx, gx = wa.heap.size := ⟨_, rfl⟩
                  rw [← hgx] at hrb ⊢
                  have HGX : Hid (gx = wa.heap.size) := hgx
                  have HRB : Hid (RowI wb gx (lentL P 3)) := hrb
                  have HBB : Hid (Below wa.heap.size wa wb) := hbb
                  have hpb : wb.heap[wo.heap.size]? = some (.cells #[.int .i64 kind, .slice ao P.length co] 28 (0, 0)) := by rw [hbb.block _ (by rw [HZA.out]; omega)]; exact HPX.out
                  have HPB : Hid _ := hpb
                  have q0 : wb.cell? ⟨wo.heap.size, 0, none⟩ = some (.int .i64 kind) := by rw [row_cell hpb]; rfl
                  have q1 : wb.cell? ⟨wo.heap.size, 1, none⟩ = some (.slice ao P.length co) := by rw [row_cell hpb]; rfl
                  have HPL : Hid (wo.heap.size < wb.heap.size) := by have := hbb.size; rw [HZA.out] at this; rw [Hid]; omega
                  have hz1 : (P.length : Int) ≤ (P.length : Int) + 3 := by omega
                  have hz2 : (0 : Int) ≤ (P.length : Int) := by omega
                  have HCK : Hid (∀ W', Calls Try.prog 9 #[.agg #[.int .i64 kind, .slice (some ⟨gx, 0, none⟩) P.length (P.length + 3)]] W' fun e w' => e = .returned (.int .i64 (polE kind P)) ∧ Below W'.heap.size W' w') := fun W' => check_any
                  clear hrb hbb hpb hgx HLE p0 p1
                  obtain ⟨E, hE⟩ : ∃ E, E = polE kind P := ⟨_, rfl⟩
                  rw [← hE] at HCK
                  have HE : Hid (E = polE kind P) := hE
                  clear hE
                  go_wp2_with fail
                  go_region_held_law (fun W' => W'.cell? ⟨wo.heap.size, 0, none⟩ = some (.int .i64 kind) ∧ W'.cell? ⟨wo.heap.size, 1, none⟩ = some (.slice ao P.length co)) (first | go_keep | assumption | (refine ⟨?_, ?_⟩ <;> assumption)) (
                    first | (go_at_call 9
                             refine Calls.mono (HCK.out _) ?_
                             rintro e wc ⟨rfl, hbc⟩
                             have HBC : Hid (Below wb.heap.size wb wc) := Below.trans (below_drew (Below.refl _ _)) hbc
                             have r0 : wc.cell? ⟨wo.heap.size, 0, none⟩ = some (.int .i64 kind) := (HBC.out.cell (p := ⟨wo.heap.size, 0, none⟩) HPL.out).trans q0
                             have r1 : wc.cell? ⟨wo.heap.size, 1, none⟩ = some (.slice ao P.length co) := (HBC.out.cell (p := ⟨wo.heap.size, 1, none⟩) HPL.out).trans q1
                             clear hbc))
                  have HBC2 : Hid _ := HBC.out
                  have HPC : Hid (wo.heap.size < wc.heap.size) := Nat.lt_of_lt_of_le HPL.out HBC.out.size
                  have HRW : Hid (IntsAt wc (.slice (some ⟨gx, 0, none⟩) P.length (P.length + 3)) P) := RowI.ints (RowI.here HRB.out HBC.out) (Nat.le_add_right _ _) (fun j x h => lent_low P j x h)
                  have HNW : Hid (∀ W', Below wc.heap.size wc W' → Calls Try.prog 10 #[.agg #[.int .i64 kind, .slice (some ⟨gx, 0, none⟩) P.length (P.length + 3)]] W' fun e w' => NewPost 56 W' kind P e w') := fun W' hb => new_any (HRW.out.here hb) HR.out.wf
                  have HQ : Hid _ := And.intro r0 r1
                  clear q0 q1 HCK
                  go_wp2_with fail
                  go_region_held_law (fun W' => W'.cell? ⟨wo.heap.size, 0, none⟩ = some (.int .i64 kind) ∧ W'.cell? ⟨wo.heap.size, 1, none⟩ = some (.slice ao P.length co)) (first | go_keep | assumption | (refine ⟨?_, ?_⟩ <;> assumption)) (
                    first | (go_at_call 10
                             refine Calls.mono (HNW.out _ (below_drew (Below.refl _ _))) ?_
                             rintro e wd ⟨b, pvb, rfl, hbd, hcd⟩
                             have HBD : Hid (Below wc.heap.size wc wd) := Below.trans (below_drew (Below.refl _ _)) hbd
                             have HCD : Hid (okP kind P = true → ChAt wc.heap.size wd b pvb ⟨kind, P, -1, 0⟩) := hcd
                             obtain ⟨A1, hA1⟩ : ∃ A, A = (if okP kind P = true then some (⟨b, 0, none⟩ : Addr) else none) := ⟨_, rfl⟩
                             rw [← HE.out]
                             unfold ptrIf
                             rw [← hA1]
                             have HA1 : Hid _ := hA1
                             have s0 : wd.cell? ⟨wo.heap.size, 0, none⟩ = some (.int .i64 kind) := (HBD.out.cell (p := ⟨wo.heap.size, 0, none⟩) HPC.out).trans r0
                             have s1 : wd.cell? ⟨wo.heap.size, 1, none⟩ = some (.slice ao P.length co) := (HBD.out.cell (p := ⟨wo.heap.size, 1, none⟩) HPC.out).trans r1
                             clear hbd hcd hA1))
                  have HPD : Hid (wo.heap.size < wd.heap.size) := Nat.lt_of_lt_of_le HPC.out HBD.out.size
                  have HWD : Hid (Below wo.heap.size wo wd) := HBA.out.trans ((HBB.out.mono HBA.out.size).trans ((HBC.out.mono (Nat.le_of_lt HPL.out)).trans (HBD.out.mono (Nat.le_of_lt HPC.out))))
                  have HRN := rnew_any (w := wd) (kind := kind) (HR.out.here HWD.out).row HR.out.wf
                  clear r0 r1
                  go_wp2_with fail
                  refine Calls.mono HRN ?_
                  rintro e we ⟨d, pvd, rfl, hbe, hce⟩
                  have HBE : Hid (Below wd.heap.size wd we) := hbe
                  have HCE : Hid (okP kind P = true → RefAt wd.heap.size we d pvd ⟨kind, P, -1, 0⟩) := hce
                  obtain ⟨A2, hA2⟩ : ∃ A, A = (if okP kind P = true then some (⟨d, 0, none⟩ : Addr) else none) := ⟨_, rfl⟩
                  rw [← HE.out]
                  unfold ptrIf
                  rw [← hA2]
                  have HA2 : Hid _ := hA2
                  have HWE : Hid (Below wo.heap.size wo we) := HWD.out.trans (HBE.out.mono (Nat.le_of_lt HPD.out))
                  have t1 : we.cell? ⟨wo.heap.size, 1, none⟩ = some (.slice ao P.length co) := (HBE.out.cell (p := ⟨wo.heap.size, 1, none⟩) HPD.out).trans s1
                  have HRE : Hid (RowI we gx (lentL P 3)) := RowI.here (RowI.here (RowI.here HRB.out HBC.out) HBD.out) HBE.out
                  have HST := stay_any (HR.out.here HWE.out).row HRE.out (by omega)
                  have HGL : Hid (gx < wb.heap.size ∧ wo.heap.size < gx) := ⟨RowI.lt HRB.out, by have h1 := HGX.out; have h2 := HZA.out; omega⟩
                  clear hbe hce hA2 s0 s1 HRN
                  go_wp2_with fail
                  refine Calls.mono HST ?_
                  rintro e wf ⟨rfl, nf, hwf⟩
                  have HBF : Hid (Below we.heap.size we wf) := by rw [hwf]; exact below_draws (Below.refl _ _) _
                  have HRF : Hid (RowI wf gx (lentL P 3)) := RowI.here HRE.out HBF.out
                  have HEE : Hid ((E != E) = false) := by simp [Hid]
                  have hEE := HEE.out
                  clear hwf HST t1
                  cases hok : okP kind P with
                  | false =>
                    have e1 : A1 = none := by rw [HA1.out, hok]; rfl
                    have e2 : A2 = none := by rw [HA2.out, hok]; rfl
                    subst e1 e2
                    clear hok HA1 HA2 HCD HCE
                    go_wp2_with fail
                    go_loopw [20] (fun i wq => ∃ (q : Nat) (T : List Int), q ≤ P.length + 3 ∧ i = .int .i64 (q : Int) ∧ RowI wq gx T ∧ T.length = P.length + 3 ∧ Kept (fun k => k = gx) wf wq) (fun i _ => P.length + 3 - (intOf i).toNat)
                    case atStart => exact ⟨0, _, Nat.zero_le _, rfl, HRF.out, lentL_length _ _ (Nat.le_refl _), Kept.refl _ _⟩
                    case round =>
                      obtain ⟨q, T, hq, rfl, hrq, hTl, hkq⟩ := hrel
                      have HRQ : Hid (RowI wr gx T) := hrq
                      have HTL : Hid (T.length = P.length + 3) := hTl
                      have HKQ : Hid _ := hkq
                      by_cases hltq : q < P.length + 3
                      · have hqz : (q : Int) < (P.length : Int) + 3 := by omega
                        obtain ⟨y, hy⟩ : ∃ y, T[q]? = some y := ⟨_, List.getElem?_eq_getElem (by omega)⟩
                        have hcell : wr.cell? ⟨gx, q, none⟩ = some (.int .i64 y) := by rw [RowI.cell hrq, hy]; rfl
                        have hfz : wr.frozen? ⟨gx, q, none⟩ = false := row_frozen hrq q
                        clear hrq hTl hkq hy
                        go_wp2_with fail
                        exact ⟨⟨q + 1, _, by omega, by go_num, RowI.set HRQ.out _ _, by rw [List.length_set]; exact HTL.out, HKQ.out.trans (setCell_kept _) (fun _ _ => id)⟩, by simp [intOf]; omega⟩
                      · have hqz : ¬ (q : Int) < (P.length : Int) + 3 := by omega
                        clear hrq hTl hkq
                        obtain ⟨wq, rfl⟩ : ∃ wq, wq = wr := ⟨_, rfl⟩
                        have HWQ : Hid (Below wo.heap.size wo wq) := Kept.below (HWE.out.trans (HBF.out.mono HWE.out.size)) HKQ.out (HWE.out.trans (HBF.out.mono HWE.out.size)).size (fun i e => by have := HGL.out; omega)
                        go_wp2_with fail
                        exact ⟨⟨k + 1, S, by omega, by go_num, HPP.out.below HWQ.out, by omega, HS0.out⟩, by simp [intOf]; omega⟩
                  | true =>
                    have e1 : A1 = some ⟨b, 0, none⟩ := by rw [HA1.out, hok]; rfl
                    have e2 : A2 = some ⟨d, 0, none⟩ := by rw [HA2.out, hok]; rfl
                    have HC1 : Hid (ChAt wc.heap.size wf b pvb ⟨kind, P, -1, 0⟩) := ((HCD.out hok).here HBE.out).here HBF.out
                    have HC2 : Hid (RefAt wd.heap.size wf d pvd ⟨kind, P, -1, 0⟩) := (HCE.out hok).here HBF.out
                    subst e1 e2
                    clear hok HA1 HA2 HCD HCE
                    go_wp2_with fail
                    go_loopw [20] (fun i wq => ∃ (q : Nat) (T : List Int), q ≤ P.length + 3 ∧ i = .int .i64 (q : Int) ∧ RowI wq gx T ∧ T.length = P.length + 3 ∧ Kept (fun k => k = gx) wf wq) (fun i _ => P.length + 3 - (intOf i).toNat)
                    case atStart => exact ⟨0, _, Nat.zero_le _, rfl, HRF.out, lentL_length _ _ (Nat.le_refl _), Kept.refl _ _⟩
                    case round =>
                      obtain ⟨q, T, hq, rfl, hrq, hTl, hkq⟩ := hrel
                      have HRQ : Hid (RowI wr gx T) := hrq
                      have HTL : Hid (T.length = P.length + 3) := hTl
                      have HKQ : Hid _ := hkq
                      by_cases hltq : q < P.length + 3
                      · have hqz : (q : Int) < (P.length : Int) + 3 := by omega
                        obtain ⟨y, hy⟩ : ∃ y, T[q]? = some y := ⟨_, List.getElem?_eq_getElem (by omega)⟩
                        have hcell : wr.cell? ⟨gx, q, none⟩ = some (.int .i64 y) := by rw [RowI.cell hrq, hy]; rfl
                        have hfz : wr.frozen? ⟨gx, q, none⟩ = false := row_frozen hrq q
                        clear hrq hTl hkq hy
                        go_wp2_with fail
                        exact ⟨⟨q + 1, _, by omega, by go_num, RowI.set HRQ.out _ _, by rw [List.length_set]; exact HTL.out, HKQ.out.trans (setCell_kept _) (fun _ _ => id)⟩, by simp [intOf]; omega⟩
                      · have hqz : ¬ (q : Int) < (P.length : Int) + 3 := by omega
                        clear hrq hTl hkq
                        obtain ⟨wq, rfl⟩ : ∃ wq, wq = wr := ⟨_, rfl⟩
                        have HWQ : Hid (Below wo.heap.size wo wq) := Kept.below (HWE.out.trans (HBF.out.mono HWE.out.size)) HKQ.out (HWE.out.trans (HBF.out.mono HWE.out.size)).size (fun i e => by have := HGL.out; omega)
                        have HPQ : Hid (PP w wq (.slice al S.length cl) (.slice ar S.length cr) S) := HPP.out.below HWQ.out
                        have HLA : Hid ((wq.alloc (.cells #[ptr b] 36)).ownsRow w.heap.size 36 1 (.slice al S.length cl) S.length (S.map fun s => ptr s.b)) := own_here HPQ.out.l (below_new _ _)
                        have HPA : Hid (PP w (wq.alloc (.cells #[ptr b] 36)) (.slice al S.length cl) (.slice ar S.length cr) S) := HPQ.out.below (below_new _ _)
                        have hSl : (S.length + 1) * 8 ≤ 140737488355328 := by omega
                        have HSL : Hid _ := hSl
                        have HLO : Hid (w.heap.size ≤ wo.heap.size ∧ gx < wc.heap.size ∧ gx < wd.heap.size ∧ wo.heap.size < gx) := by
                          have h1 := HPP.out.low.size
                          have h2 := HGL.out
                          have h3 := HBC.out.size
                          have h4 := HBD.out.size
                          rw [Hid]
                          omega
                        have HIT : Hid (ItAt w.heap.size (wq.alloc (.cells #[ptr b] 36)) ⟨b, pvb, d, pvd, ⟨kind, P, -1, 0⟩⟩) := by
                          have h1 := HLO.out
                          have h4 := HBD.out.size
                          exact ⟨((HC1.out.far HKQ.out h1.2.1).here (below_new _ _)).mono (by omega), ((HC2.out.far HKQ.out h1.2.2.1).here (below_new _ _)).mono (by omega)⟩
                        have HNB : Hid (∀ t ∈ S, t.b ≠ b) := fun t ht e => by
                          have h1 := (HPP.out.each t ht).p.lt
                          have h2 := HC1.out.low
                          have h3 := HLO.out
                          omega
                        have HND : Hid (∀ t ∈ S, t.d ≠ d) := fun t ht e => by
                          have h1 := (HPP.out.each t ht).r.lt
                          have h2 := HC2.out.low
                          have h3 := HLO.out
                          omega
                        have HWW : Hid (w.heap.size ≤ wq.heap.size) := HPQ.out.low.size
                        clear hSl
                        go_upto_region 32 with
                          (at_builtin
                           refine wpList_append_PC rfl _ _ rfl w.heap.size (.slice al S.length cl) S.length _ b rfl HLA.out wq.heap.size rfl (heap_alloc_last wq _) HSL.out (Nat.le_trans HWW.out (below_new wq _).size) ?_
                           intro lv2 w7 hl2 hk2
                           have HL2 : Hid _ := hl2
                           have HK2 : Hid _ := hk2
                           clear hl2 hk2)
                        obtain ⟨al2, cl2, rfl⟩ := own_slice HL2.out
                        have HRA : Hid ((w7.alloc (.cells #[ptr d] 39)).ownsRow w.heap.size 39 1 (.slice ar S.length cr) S.length (S.map fun s => ptr s.d)) := own_here (own_keep HPA.out.r HK2.out (by decide)) (below_new _ _)
                        have HW7 : Hid (w.heap.size ≤ w7.heap.size) := Nat.le_trans (Nat.le_trans HWW.out (below_new wq _).size) HK2.out.low.size
                        go_wp2_with
                          (at_builtin
                           refine wpList_append_PR rfl _ _ rfl w.heap.size (.slice ar S.length cr) S.length _ d rfl HRA.out w7.heap.size rfl (heap_alloc_last w7 _) HSL.out (Nat.le_trans HW7.out (below_new w7 _).size) ?_
                           intro rv2 w8 hr2 hk3
                           have HR2 : Hid _ := hr2
                           have HK3 : Hid _ := hk3
                           clear hr2 hk3)
                        exact ⟨⟨k + 1, S ++ [⟨b, pvb, d, pvd, ⟨kind, P, -1, 0⟩⟩], by omega, by go_num, HPA.out.more (s := ⟨b, pvb, d, pvd, ⟨kind, P, -1, 0⟩⟩) HIT.out HNB.out HND.out HK2.out HL2.out (below_new w7 _) HK3.out HR2.out, by simp; omega, fun t ht => by
                          rcases List.mem_append.1 ht with ht | ht
                          · exact HS0.out t ht
                          · simp at ht
                            rw [ht]⟩, by simp [intOf]; omega⟩
                · have hltz : ¬ (k : Int) < (L.length : Int) := by omega
                  have HS1 : Hid (∀ s ∈ S, s.c.count ≤ 0) := fun s hs => Nat.le_of_eq (HS0.out s hs)
                  have HNL : Hid (S.length ≤ 4398046511104) := by rw [Hid]; omega
                  clear hpp hS0
                  go_wp2_with fail
                  have hgen : ∃ N, N = S.length := ⟨_, rfl⟩
                  obtain ⟨N, hN⟩ := hgen
                  rw [← hN] at HPP HNL ⊢
                  have HN : Hid (S.length = N) := hN.symm
                  have hNL := HNL.out
                  clear hN hSk hltz
                  go_loopw [21] (fun i wr => ∃ (k : Nat) (S : List It), k ≤ A.length ∧ i = .int .i64 (k : Int) ∧ PP w wr (.slice al N cl) (.slice ar N cr) S ∧ S.length = N ∧ ∀ s ∈ S, s.c.count ≤ k) (fun i _ => A.length - (intOf i).toNat)
                  case atStart => exact ⟨0, S, Nat.zero_le _, rfl, HPP.out, HN.out, HS1.out⟩
                  case round =>
                    obtain ⟨k5, S5, hk5, rfl, hpp, hSN, hSc⟩ := hrel
                    obtain ⟨wo5, rfl⟩ : ∃ wo, wo = wr := ⟨_, rfl⟩
                    have HPP5 : Hid _ := hpp
                    have HSN5 : Hid (S5.length = N) := hSN
                    have HSC5 : Hid _ := hSc
                    by_cases hgo : k5 < A.length ∧ 0 < N
                    · obtain ⟨hlt, hN0⟩ := hgo
                      have hltz : (k5 : Int) < (A.length : Int) := by omega
                      have hNz : (N : Int) > 0 := by omega
                      obtain ⟨o, ho⟩ : ∃ o, A[k5]? = some o := ⟨_, List.getElem?_eq_getElem hlt⟩
                      obtain ⟨ga, oa, rfl, hga0, hkv0⟩ := kvs_cell HA.out ho
                      have hkv := hkv0.here hga0 hpp.low
                      have hga : ga < wo5.heap.size := Nat.lt_of_lt_of_le hga0 hpp.low.size
                      have HR0' := hkv0.row
                      have HGA0 : Hid (ga < w.heap.size) := hga0
                      clear hkv0 hga0
                      obtain ⟨on, pv, P⟩ := o
                      dsimp only at HR0'
                      have d0 := hkv.c0
                      have d1 := hkv.c1
                      have hwn := hkv.wn
                      have hsh := hkv.row.short
                      have hrw := hkv.row
                      dsimp only at d0 d1 hsh hrw hwn
                      obtain ⟨ao, co, eo⟩ := hrw.row.form
                      subst eo
                      have HR : Hid (IntsIn wo5 (.slice ao P.length co) P) := hrw
                      have HR0 : Hid (IntsIn w (.slice ao P.length co) P) := HR0'
                      clear HR0'
                      have HPK := pick_any wo5 on N hwn hN0 (by omega)
                      have HQL : Hid (pickK on N < N) := Nat.mod_lt _ hN0
                      generalize pickK on N = q at HPK HQL
                      have hql := HQL.out
                      obtain ⟨s, hs⟩ : ∃ s, S5[q]? = some s := ⟨_, List.getElem?_eq_getElem (by omega)⟩
                      have HS : Hid (S5[q]? = some s) := hs
                      have HLE := lent_any (HR.out).row (by omega)
                      have HGA : Hid (ga < wo5.heap.size) := hga
                      clear hpp hSN hSc hkv hrw ho hs hga
                      go_wp2_with fail
                      refine Calls.mono HPK ?_
                      rintro e wx ⟨rfl, hwx⟩
                      obtain rfl := hwx.symm
                      clear HPK hwx
                      go_wp2_with fail
                      refine Calls.mono HLE ?_
                      rintro e wb ⟨rfl, hrb, hbb⟩
                      obtain ⟨gx, hgx⟩ : ∃ gx, gx = wo5.heap.size := ⟨_, rfl⟩
                      rw [← hgx] at hrb ⊢
                      have HGX : Hid (gx = wo5.heap.size) := hgx
                      have HRB : Hid (RowI wb gx (lentL P 3)) := hrb
                      have HBB : Hid (Below wo5.heap.size wo5 wb) := hbb
                      clear hrb hbb hgx HLE
                      have hPP5 : PP w wb (.slice al N cl) (.slice ar N cr) S5 := HPP5.out.below HBB.out
                      have HPB : Hid _ := hPP5
                      obtain ⟨gl, cl', el, hcl⟩ := hPP5.cellL HS.out
                      obtain ⟨gr, cr', er, hcr⟩ := hPP5.cellR HS.out
                      rw [HSN5.out] at el er
                      simp only [Value.slice.injEq] at el er
                      obtain ⟨rfl, -, rfl⟩ := el
                      obtain ⟨rfl, -, rfl⟩ := er
                      have HWLT : Hid (Below w.heap.size w wb) := hPP5.low
                      have hdb : wb.cell? ⟨ga, oa + k5 * 2 + 1, none⟩ = some (.slice ao P.length co) := (HBB.out.cell (p := ⟨ga, oa + k5 * 2 + 1, none⟩) HGA.out).trans d1
                      have HRW : Hid (IntsAt wb (.slice (some ⟨gx, 0, none⟩) P.length (P.length + 3)) P) := RowI.ints HRB.out (Nat.le_add_right _ _) (fun j x h => lent_low P j x h)
                      have HIS := hPP5.each s (List.mem_of_getElem? HS.out)
                      have HIT : Hid (ItAt w.heap.size wb s) := HIS
                      have HCS : Hid (s.c.count < 4000000000000000000) := by have := HSC5.out s (List.mem_of_getElem? HS.out); rw [Hid]; omega
                      have HSH : Hid (P.length * 8 ≤ 140737488355328) := by rw [Hid]; omega
                      have HCH : Hid (Calls Try.prog 14 #[ptr s.b, .slice (some ⟨gx, 0, none⟩) P.length (P.length + 3)] wb.drew fun e w' => ChosenPost 56 w.heap.size wb.drew s.b s.v s.c P e w') := choose_any (HIT.out.p.here (below_drew (Below.refl _ _))) (HRW.out.here (below_drew (Below.refl _ _))) HSH.out HCS.out
                      obtain ⟨sb, hsb⟩ : ∃ sb, sb = s.b := ⟨_, rfl⟩
                      obtain ⟨sd, hsd⟩ : ∃ sd, sd = s.d := ⟨_, rfl⟩
                      rw [← hsb] at hcl HCH
                      rw [← hsd] at hcr
                      have HSB : Hid (sb = s.b) := hsb
                      have HSD : Hid (sd = s.d) := hsd
                      have hz1 : (P.length : Int) ≤ (P.length : Int) + 3 := by omega
                      have hz2 : (0 : Int) ≤ (P.length : Int) := by omega
                      have hz3 : (q : Int) < (N : Int) := by omega
                      have hz4 : (0 : Int) ≤ (q : Int) := by omega
                      have hz5 : (0 : Int) ≤ (k5 : Int) := by omega
                      have HCL : Hid (wb.cell? ⟨gl, q, none⟩ = some (ptr sb) ∧ wb.cell? ⟨gr, q, none⟩ = some (ptr sd) ∧ wb.cell? ⟨ga, oa + k5 * 2 + 1, none⟩ = some (.slice ao P.length co)) := ⟨hcl, hcr, hdb⟩
                      unfold ptr at hcl hcr HCH
                      have HNE : Hid ((gl ≠ sb ∧ gr ≠ sb ∧ ga ≠ sb ∧ gx ≠ sb ∧ sd ≠ sb) ∧ gl ≠ sd ∧ gr ≠ sd ∧ ga ≠ sd ∧ gx ≠ sd) := by
                        obtain ⟨_, _, c1, h1⟩ := own_type hPP5.l gl rfl
                        obtain ⟨_, _, c2, h2⟩ := own_type hPP5.r gr rfl
                        have h3 := HIT.out.p.cells
                        have h4 := HIT.out.r.cells
                        rw [← hsb] at h3
                        rw [← hsd] at h4
                        have h5 : ga < w.heap.size := HGA0.out
                        have h6 := HIT.out.p.low
                        have h7 := HIT.out.r.low
                        rw [← hsb] at h6
                        rw [← hsd] at h7
                        exact ⟨⟨tag_ne h1 h3 (by decide), tag_ne h2 h3 (by decide), fun e => by omega, tag_ne HRB.out h3 (by decide), tag_ne h4 h3 (by decide)⟩, tag_ne h1 h4 (by decide), tag_ne h2 h4 (by decide), fun e => by omega, tag_ne HRB.out h4 (by decide)⟩
                      clear hPP5 HIS hsb hsd d0 d1 hwn
                      obtain ⟨I, hI⟩ : ∃ I, I = ansI s.c P := ⟨_, rfl⟩
                      obtain ⟨F, hF⟩ : ∃ F, F = ansE P := ⟨_, rfl⟩
                      have HI : Hid (I = ansI s.c P) := hI
                      have HF : Hid (F = ansE P) := hF
                      clear hI hF
                      go_wp2_with fail
                      go_region_held_law (fun W' => W'.cell? ⟨gl, q, none⟩ = some (.pointer (some ⟨sb, 0, none⟩)) ∧ W'.cell? ⟨ga, oa + k5 * 2 + 1, none⟩ = some (.slice ao P.length co)) (first | go_keep | assumption | (refine ⟨?_, ?_⟩ <;> assumption)) (
                        first | (go_at_call 14
                                 refine Calls.mono HCH.out ?_
                                 rintro e wc ⟨rfl, hcc, hkc⟩
                                 rw [← HI.out, ← HF.out]
                                 have HCC : Hid _ := hcc
                                 have HKC : Hid (Kept (fun k => k = sb) wb wc) := (Kept.refl (fun k => k = sb) wb).drew.trans hkc (fun _ _ => id)
                                 have n0 := kept_cell HKC.out HNE.out.1.1 HCL.out.1
                                 have n1 := kept_cell HKC.out HNE.out.1.2.1 HCL.out.2.1
                                 have n2 := kept_cell HKC.out HNE.out.1.2.2.1 HCL.out.2.2
                                 unfold ptr at n0 n1
                                 clear hcc hkc))
                      have HRC : Hid (RefAt w.heap.size wc.drew s.d s.u s.c) := (ChT.kept HIT.out.r (by rw [← HSB.out]; exact HKC.out) HIT.out.p.cells (tag_ne HIT.out.r.cells HIT.out.p.cells (by decide)) (by decide)).here (below_drew (Below.refl _ _))
                      have HCLC : Hid (wc.cell? ⟨gl, q, none⟩ = some (ptr sb) ∧ wc.cell? ⟨gr, q, none⟩ = some (ptr sd) ∧ wc.cell? ⟨ga, oa + k5 * 2 + 1, none⟩ = some (.slice ao P.length co)) := ⟨n0, n1, n2⟩
                      have HWC : Hid (Below w.heap.size w wc) := Kept.below HWLT.out HKC.out HWLT.out.size (fun i e => by rw [e, HSB.out]; exact HIT.out.p.low)
                      have HRD : Hid (Calls Try.prog 15 #[.pointer (some ⟨sd, 0, none⟩), .slice ao P.length co] wc.drew fun e w' => ChosenPost 48 w.heap.size wc.drew sd s.u s.c P e w') := by
                        rw [HSD.out]
                        exact rchoose_any HRC.out (HR0.out.at_ (HWC.out.trans (below_drew (Below.refl _ _)))) HSH.out HCS.out
                      clear hcl hcr hdb HCH
                      go_wp2_with fail
                      go_region_held_law (fun W' => W'.cell? ⟨gr, q, none⟩ = some (.pointer (some ⟨sd, 0, none⟩)) ∧ W'.cell? ⟨ga, oa + k5 * 2 + 1, none⟩ = some (.slice ao P.length co)) (first | go_keep | assumption | (refine ⟨?_, ?_⟩ <;> assumption)) (
                        first | (go_at_call 15
                                 refine Calls.mono HRD.out ?_
                                 rintro e wd ⟨rfl, hcd, hkd⟩
                                 rw [← HI.out, ← HF.out]
                                 have HCD : Hid _ := hcd
                                 have HKD : Hid (Kept (fun k => k = sd) wc wd) := (Kept.refl (fun k => k = sd) wc).drew.trans hkd (fun _ _ => id)
                                 have m0 := kept_cell HKD.out HNE.out.2.1 HCLC.out.1
                                 have m1 := kept_cell HKD.out HNE.out.2.2.1 HCLC.out.2.1
                                 have m2 := kept_cell HKD.out HNE.out.2.2.2.1 HCLC.out.2.2
                                 unfold ptr at m0 m1
                                 clear hcd hkd))
                      have HWD : Hid (Below w.heap.size w wd) := Kept.below HWC.out HKD.out HWC.out.size (fun i e => by rw [e, HSD.out]; exact HIT.out.r.low)
                      have HRX : Hid (RowI wd gx (lentL P 3)) := kept_row HKD.out HNE.out.2.2.2.2 (kept_row HKC.out HNE.out.1.2.2.2.1 HRB.out)
                      have HST := stay_any (HR0.out.at_ HWD.out) HRX.out (by omega)
                      have HPN : Hid (PP w wd (.slice (some ⟨gl, 0, none⟩) N cl) (.slice (some ⟨gr, 0, none⟩) N cr) (S5.set q { s with c := nextC s.c P })) := by
                        have k1 := HKC.out
                        have k2 := HKD.out
                        have h1 := HCC.out
                        have h2 := HCD.out
                        rw [HSB.out] at k1 h1
                        rw [HSD.out] at k2 h2
                        exact HPB.out.asked HS.out k1 h1 k2 h2
                      clear n0 n1 n2 HRD
                      go_wp2_with fail
                      refine Calls.mono HST ?_
                      rintro e wf ⟨rfl, nf, hwf⟩
                      have HBF : Hid (Below wd.heap.size wd wf) := by rw [hwf]; exact below_draws (Below.refl _ _) _
                      have HPF : Hid _ := HPN.out.below HBF.out
                      have hbl := HPN.out.low
                      have o0 : wf.cell? ⟨gl, q, none⟩ = some (.pointer (some ⟨sb, 0, none⟩)) := by rw [hwf]; simpa using m0
                      have o1 : wf.cell? ⟨gr, q, none⟩ = some (.pointer (some ⟨sd, 0, none⟩)) := by rw [hwf]; simpa using m1
                      have HI5 : Hid (ItAt w.heap.size wf { s with c := nextC s.c P }) := HPF.out.each _ (List.mem_of_getElem? (i := q) (by rw [List.getElem?_set_self (by have := (List.getElem?_eq_some_iff.1 HS.out).1; exact this)]))
                      obtain ⟨CN, hCN⟩ : ∃ CN : Int, CN = ((nextC s.c P).count : Int) := ⟨_, rfl⟩
                      obtain ⟨B, hB⟩ : ∃ B : Bool, B = ((nextC s.c P).kind == 3) := ⟨_, rfl⟩
                      have HCO : Hid (∀ n, Calls Try.prog 16 #[.pointer (some ⟨sb, 0, none⟩)] (wf.drewN n) fun e w' => e = .returned (.int .i64 CN) ∧ w' = wf.drewN n) := fun n => by
                        rw [hCN, HSB.out]
                        exact count_any (HI5.out.p.here (below_draws (Below.refl _ _) n))
                      have HSE : Hid (∀ n, Calls Try.prog 17 #[.pointer (some ⟨sb, 0, none⟩)] (wf.drewN n) fun e w' => e = .returned (.bool B) ∧ w' = wf.drewN n) := fun n => by
                        rw [hB, HSB.out]
                        exact settles_any (HI5.out.p.here (below_draws (Below.refl _ _) n))
                      have HRS : Hid (∀ n, Calls Try.prog 18 #[.pointer (some ⟨sd, 0, none⟩)] (wf.drewN n) fun e w' => e = .returned (.bool B) ∧ w' = wf.drewN n) := fun n => by
                        rw [hB, HSD.out]
                        exact rsettles_any (HI5.out.r.here (below_draws (Below.refl _ _) n))
                      have o2 : wf.cell? ⟨sd, 3, none⟩ = some (.int .i64 CN) := by rw [hCN, HSD.out]; exact HI5.out.r.cell 3
                      have hII : (I != I) = false := by simp
                      have hFF : (F != F) = false := by simp
                      have hCC : (CN != CN) = false := by simp
                      have hBB : (B != B) = false := by simp
                      have HCN5 : Hid (∀ t ∈ S5.set q { s with c := nextC s.c P }, t.c.count ≤ k5 + 1) := fun t ht => by
                        rcases List.mem_or_eq_of_mem_set ht with h | h
                        · exact Nat.le_succ_of_le (HSC5.out t h)
                        · subst h
                          exact Nat.le_trans (next_count _ _) (Nat.succ_le_succ (HSC5.out s (List.mem_of_getElem? HS.out)))
                      clear m0 m1 m2 hwf HST hbl hCN hB
                      go_wp2_with fail
                      go_quiet (first
                        | (go_at_call 16; exact Calls.quiet_of_same (HCO.out _))
                        | (go_at_call 17; exact Calls.quiet_of_same (HSE.out _))
                        | (go_at_call 18; exact Calls.quiet_of_same (HRS.out _)))
                      go_wp2_with fail
                      exact ⟨⟨k5 + 1, _, by omega, by go_num, HPF.out.below (below_draws (Below.refl _ _) _), by rw [List.length_set]; exact HSN5.out, HCN5.out⟩, by simp [intOf]; omega⟩
                    · have hcase : ¬ (k5 : Int) < (A.length : Int) ∨ (k5 : Int) < (A.length : Int) ∧ ¬ (N : Int) > 0 := by omega
                      clear hpp hSN hSc hgo
                      rcases hcase with hltz | ⟨hltz, hNz⟩
                      all_goals
                        go_wp2_with fail
                        go_loopw [29] (fun i wr => ∃ t : Nat, t ≤ N ∧ i = .int .i64 (t : Int) ∧ Below wo5.heap.size wo5 wr) (fun i _ => N - (intOf i).toNat)
                        case atStart => exact ⟨0, Nat.zero_le _, rfl, Below.refl _ _⟩
                        case round =>
                          obtain ⟨t, ht, rfl, hb6⟩ := hrel
                          have HB6 : Hid _ := hb6
                          have HP6 : Hid _ := HPP5.out.below hb6
                          clear hb6
                          by_cases hlt6 : t < N
                          · have hltz6 : (t : Int) < (N : Int) := by omega
                            obtain ⟨s, hs⟩ : ∃ s, S5[t]? = some s := ⟨_, List.getElem?_eq_getElem (by have := HSN5.out; omega)⟩
                            obtain ⟨gl, cl', el, hcl⟩ := HP6.out.cellL hs
                            obtain ⟨gr, cr', er, hcr⟩ := HP6.out.cellR hs
                            rw [HSN5.out] at el er
                            have el1 : al = some ⟨gl, 0, none⟩ := by injection el
                            have er1 : ar = some ⟨gr, 0, none⟩ := by injection er
                            have HIS : Hid _ := HP6.out.each s (List.mem_of_getElem? hs)
                            obtain ⟨sb, hsb⟩ : ∃ sb, sb = s.b := ⟨_, rfl⟩
                            obtain ⟨sd, hsd⟩ : ∃ sd, sd = s.d := ⟨_, rfl⟩
                            obtain ⟨CN, hCN⟩ : ∃ CN : Int, CN = (s.c.count : Int) := ⟨_, rfl⟩
                            obtain ⟨B, hB⟩ : ∃ B : Bool, B = (s.c.kind == 3) := ⟨_, rfl⟩
                            have HCO : Hid (∀ n, Calls Try.prog 16 #[.pointer (some ⟨sb, 0, none⟩)] (wr.drewN n) fun e w' => e = .returned (.int .i64 CN) ∧ w' = wr.drewN n) := fun n => by
                              rw [hCN, hsb]
                              exact count_any (HIS.out.p.here (below_draws (Below.refl _ _) n))
                            have HSE : Hid (∀ n, Calls Try.prog 17 #[.pointer (some ⟨sb, 0, none⟩)] (wr.drewN n) fun e w' => e = .returned (.bool B) ∧ w' = wr.drewN n) := fun n => by
                              rw [hB, hsb]
                              exact settles_any (HIS.out.p.here (below_draws (Below.refl _ _) n))
                            have HRS : Hid (∀ n, Calls Try.prog 18 #[.pointer (some ⟨sd, 0, none⟩)] (wr.drewN n) fun e w' => e = .returned (.bool B) ∧ w' = wr.drewN n) := fun n => by
                              rw [hB, hsd]
                              exact rsettles_any (HIS.out.r.here (below_draws (Below.refl _ _) n))
                            have o2 : wr.cell? ⟨sd, 3, none⟩ = some (.int .i64 CN) := by rw [hCN, hsd]; exact HIS.out.r.cell 3
                            have hCC : (CN != CN) = false := by simp
                            have hBB : (B != B) = false := by simp
                            rw [← hsb] at hcl
                            rw [← hsd] at hcr
                            unfold ptr at hcl hcr
                            subst el1 er1
                            clear hs el er hsb hsd hCN hB
                            go_wp2_with fail
                            go_quiet (first
                              | (go_at_call 16; exact Calls.quiet_of_same (HCO.out _))
                              | (go_at_call 17; exact Calls.quiet_of_same (HSE.out _))
                              | (go_at_call 18; exact Calls.quiet_of_same (HRS.out _)))
                            go_wp2_with fail
                            exact ⟨⟨t + 1, by omega, by go_num, below_draws HB6.out _⟩, by simp [intOf]; omega⟩
                          · have hltz6 : ¬ (t : Int) < (N : Int) := by omega
                            go_wp2_with fail
                            go_ret
                            exact ⟨rfl, HP6.out.low⟩
            · have hmbz : ¬ (m : Int) ≤ 2147483647 := by omega
              have hmbz2 : (m : Int) > 2147483647 := by omega
              clear hgo
              by_cases hltz2 : (j : Int) < (A.length : Int)
              all_goals
                go_wp2_with fail
                go_ret
                exact ⟨rfl, HB1.out⟩
      · have hnbz : ¬ (n : Int) ≤ 2147483647 := by omega
        have hnbz2 : (n : Int) > 2147483647 := by omega
        clear hgo
        by_cases hltz : (k : Int) < (L.length : Int)
        all_goals
          go_wp2_with fail
          go_loop [6, 8] (fun g i => i = .int .i64 0 ∧ g = .int .i64 (n : Int)) (fun _ _ => 0)
          case atStart => exact ⟨rfl, rfl⟩
          case round =>
            obtain ⟨rfl, rfl⟩ := hrel
            by_cases hltz2 : (0 : Int) < (A.length : Int)
            all_goals
              go_wp2_with fail
              go_ret
              exact ⟨rfl, HB1.out⟩
end Go.Proofs.Ytejenfcfngjaaaa
