/- The law DevFates, walked. -/
import Derived.Test.YtphnajphgiinfaaFatesEnd
import Derived.Deep.RegionHeldLaw
import Derived.Deep.AppendLies
namespace Go.Proofs.Ytphnajphgiinfaa
open Go.RowKit Go.Maps Go.MuLone Go.Sort

/-- A place of the argument: its block, its values. -/
def PlaceAt (N : Nat) (w : World) (a : Option Addr) (i : Nat) (p : Int × List UInt8) : Prop :=
  (Lit.int .i64 p.1).wf = true ∧ p.2.length ≤ 140737488355328 ∧ ∃ g off av capv, a = some ⟨g, off, none⟩ ∧ g < N ∧ w.cell? ⟨g, off + i * 2, none⟩ = some (.int .i64 p.1) ∧ w.cell? ⟨g, off + i * 2 + 1, none⟩ = some (.slice av p.2.length capv) ∧
    ∀ (j : Nat) c, p.2[j]? = some c → ∃ g' off', av = some ⟨g', off', none⟩ ∧ g' < N ∧ w.cell? ⟨g', off' + j, none⟩ = some (.int .u8 (c.toNat : Int))

def FateAt (N : Nat) (w : World) (a : Option Addr) (i : Nat) (f : Int) : Prop :=
  (Lit.int .i64 f).wf = true ∧ ∃ g off, a = some ⟨g, off, none⟩ ∧ g < N ∧ w.cell? ⟨g, off + i, none⟩ = some (.int .i64 f)

/-- How many writes are played, of the first places of 'then'. -/
def sumTo (F T : List (Int × List UInt8)) (k : Nat) : Nat := F.length + ((T.take k).map fun p => 1 + p.2.length).sum

theorem sumTo_succ (F T : List (Int × List UInt8)) (k : Nat) (p : Int × List UInt8) (h : T[k]? = some p) : sumTo F T (k + 1) = sumTo F T k + 1 + p.2.length := by
  unfold sumTo
  rw [List.take_add_one, h]
  simp
  omega

/-- How many values the first places have. -/
def lenTo (T : List (Int × List UInt8)) (k : Nat) : Nat := ((T.take k).map fun p => p.2.length).sum

theorem lenTo_succ (T : List (Int × List UInt8)) (k : Nat) (p : Int × List UInt8) (h : T[k]? = some p) : lenTo T (k + 1) = lenTo T k + p.2.length := by
  unfold lenTo
  rw [List.take_add_one, h]
  simp

theorem sum_le_sum : ∀ (l : List (Int × List UInt8)), (l.map fun p => p.2.length).sum ≤ (l.map fun p => 1 + p.2.length).sum
  | [] => Nat.le_refl _
  | x :: r => by have := sum_le_sum r; simp only [List.map_cons, List.sum_cons]; omega
theorem sum_take_le (f : Int × List UInt8 → Nat) : ∀ (l : List (Int × List UInt8)) (k : Nat), ((l.take k).map f).sum ≤ (l.map f).sum
  | [], k => by simp
  | x :: r, 0 => by simp
  | x :: r, k + 1 => by have := sum_take_le f r k; simp only [List.take_succ_cons, List.map_cons, List.sum_cons]; omega

theorem lenTo_le (F T : List (Int × List UInt8)) (h : sumTo F T T.length ≤ 4194303) (k : Nat) : lenTo T k ≤ 4194303 := by
  unfold sumTo at h
  rw [List.take_length] at h
  have h1 := sum_le_sum (T.take k)
  have h2 := sum_take_le (fun p => 1 + p.2.length) T k
  unfold lenTo
  omega

theorem newsB (w1 : World) (v : UInt8) : ∀ (j : Nat) u, [Value.int .u8 (v.toNat : Int)][j]? = some u → (w1.alloc (.cells #[Value.int .u8 (v.toNat : Int)] 5)).cell? ((⟨w1.heap.size, 0, none⟩ : Addr).add j) = some u := by
  intro j u hj
  match j, hj with
  | 0, hj => simp at hj; subst hj; simp [Addr.add]
theorem oneB1 (v : UInt8) : ∀ u ∈ [Value.int .u8 (v.toNat : Int)], u.oneCell' = true := by
  intro u hu
  simp at hu
  subst hu
  rfl

theorem inv1_start (S B : Nat) (w w2 w3 : World) (b : Nat) (hd : DevIs 0 0 w3 b (St.new S B w2.heap.size)) (hb : w2.heap.size + 2 = b) (h0 : Below w.heap.size w w3) (h1 : w.heap.size ≤ w2.heap.size) :
    Inv1 S B 0 w (w3.alloc (.map #[] 0)) b w3.heap.size (St.new S B w2.heap.size) (.map []) := by
  have ha : Below w3.heap.size w3 (w3.alloc (.map #[] 0)) := (Below.refl _ _).alloc (Nat.le_refl _) _
  have hr : Run 0 b w w3 (St.new S B w2.heap.size) := ⟨hd, h0, fun k hk => by
    rcases hk with e | e | e | ⟨n, v, hv, _⟩
    · omega
    · rw [e]; exact h1
    · rw [e]; exact Nat.le_succ_of_le h1
    · have := valAt_has hv
      simp [St.new, Maps.has] at this⟩
  exact { run := hr.below ha, calm := ⟨rfl, rfl⟩, size := rfl, blocks := rfl, last0 := rfl, map := World.ownsMap_made _ _ _ _, new := h0.size, apart := fun x => by have := hd.own_lt x; omega, rel := fun m => .inl ⟨rfl, rfl⟩, cnt := fun m => Nat.le_refl _, X := rfl }

theorem byte251 (k : Nat) : ∃ v : UInt8, (k : Int) % 251 = (v.toNat : Int) := ⟨UInt8.ofNat (k % 251), by
  have h : (UInt8.ofNat (k % 251)).toNat = k % 251 := by
    rw [UInt8.toNat_ofNat']
    omega
  rw [h]; omega⟩

theorem wf_small {n : Int} (h0 : 0 ≤ n) (h1 : n < 1099511627776) : (Lit.int .i64 n).wf = true := WalkArith.wf_i64 (by omega)

set_option maxHeartbeats 4000000 in
set_option maxRecDepth 100000 in
theorem fates_walk (c d : Int) (w : World) (hc : (Lit.int .i64 c).wf = true) (hd : (Lit.int .i64 d).wf = true) (aF aT aX : Option Addr) (capF capT capX : Nat) (F T : List (Int × List UInt8)) (X : List Int)
    (lF : F.length ≤ 140737488355328) (lT : T.length ≤ 140737488355328)
    (hF : ∀ i p, F[i]? = some p → PlaceAt w.heap.size w aF i p) (hT : ∀ i p, T[i]? = some p → PlaceAt w.heap.size w aT i p) (hX : ∀ i f, X[i]? = some f → FateAt w.heap.size w aX i f) :
    Calls Try.prog 4 #[.int .i64 c, .int .i64 d, .slice aF F.length capF, .slice aT T.length capT, .slice aX X.length capX] w fun e w' => e = .returned (.bool true) ∧ Below w.heap.size w w' := by
  go_enter Try.func4, Try.ntmps4
  go_wp2_with fail
  refine (awake_any w).mono ?_
  rintro e w1 ⟨rfl, hb1⟩
  go_wp2_with fail
  refine (sized_any c d w1 hc hd).mono ?_
  rintro e w2 ⟨rfl, hb2⟩
  have hsz := size_cases c
  have hbk := blocks_range d
  have HS : Hid (sizeOfRaw c = 512 ∨ sizeOfRaw c = 1024 ∨ sizeOfRaw c = 2048 ∨ sizeOfRaw c = 4096) := hsz
  have hS1 : 512 ≤ sizeOfRaw c ∧ sizeOfRaw c ≤ 4096 := by omega
  generalize sizeOfRaw c = S at *
  generalize blocksOfRaw d = B at *
  clear hsz hc hd
  go_wp2_with fail
  refine (played_nil S B w2 HS.out hbk).mono ?_
  rintro e w3 ⟨rfl, hd3, hb3⟩
  have hb13 : Below w.heap.size w w3 := (hb1.trans (hb2.mono hb1.size)).trans (hb3.mono (Nat.le_trans hb1.size hb2.size))
  have hw03 : w.heap.size ≤ w2.heap.size := Nat.le_trans hb1.size hb2.size
  clear hb1 hb2
  go_wp2_with fail
  go_loop [13, 14] (fun sm i => ∃ k : Nat, k ≤ T.length ∧ i = .int .i64 k ∧ sm = .int .i64 (sumTo F T k) ∧ (k = 0 ∨ sumTo F T (k - 1) ≤ 4194303)) (fun _ i => T.length - (intOf i).toNat)
  case atStart => exact ⟨0, Nat.zero_le _, rfl, by simp [sumTo], .inl rfl⟩
  case round =>
    obtain ⟨k, hk, rfl, rfl, hprev⟩ := hrel
    have hQ : (2147483647 : Int) / (S : Int) ≤ 4194303 := by
      have : (512 : Int) ≤ (S : Int) := by omega
      have h2 := Int.ediv_lt_of_lt_mul (a := 2147483647) (b := 4194304) (c := (S : Int)) (by omega) (by omega)
      omega
    have hQ0 : 0 ≤ (2147483647 : Int) / (S : Int) := Int.ediv_nonneg (by decide) (by omega)
    have hS2 : 1 ≤ (S : Int) := by omega
    by_cases hle : (sumTo F T k : Int) ≤ 2147483647 / (S : Int)
    · by_cases hlt : k < T.length
      · obtain ⟨hwf, hpl, g, off, av, capv, rfl, hg, hc0, hc1, _⟩ := hT k T[k] (List.getElem?_eq_getElem hlt)
        have hc1' := (hb13.cell (p := ⟨g, off + k * 2 + 1, none⟩) hg).trans hc1
        have HT : Hid (sumTo F T (k + 1) = sumTo F T k + 1 + T[k].2.length) := sumTo_succ F T k _ (List.getElem?_eq_getElem hlt)
        generalize T[k].2.length = ln at *
        have hsm : (sumTo F T k : Int) ≤ 4194303 := by omega
        have HP : Hid (sumTo F T (k + 1 - 1) ≤ 4194303) := by unfold Hid; simp; omega
        generalize sumTo F T k = sm at *
        clear hF hX hc0 hc1 hwf hd3 hb3
        go_wp2
        exact ⟨⟨k + 1, by omega, by go_num, by rw [HT.out]; go_num, .inr HP.out⟩, by simp [intOf]; omega⟩
      · obtain rfl : k = T.length := by omega
        have hngt : ¬ ((2147483647 : Int) / (S : Int) < (sumTo F T T.length : Int)) := by omega
        have hsum : sumTo F T T.length ≤ 4194303 := by omega
        have hFl : F.length ≤ 4194303 := by unfold sumTo at hsum; omega
        have HLT : Hid (∀ k, lenTo T k ≤ 4194303) := fun k => lenTo_le F T hsum k
        generalize sumTo F T T.length = sm at *
        clear hsum hprev lF hQ hQ0
        have hmm := @run_makeMap Try.prog
        have hB1 : 0 < (B : Int) := by omega
        have hB2 : (B : Int) ≤ 65536 := by omega
        generalize hbb : w2.heap.size + 2 = b at *
        have HBB : Hid (w2.heap.size + 2 = b) := hbb
        have I0 := inv1_start S B w w2 w3 b hd3 hbb hb13 hw03
        clear hbb hd3 hb3
        go_wp2_with fail
        go_loopw [16] (fun i wr => ∃ (k : Nat) (s : St) (Dl : DataW Value), k ≤ F.length ∧ i = .int .i64 k ∧ Inv1 S B k w wr b w3.heap.size s Dl) (fun i _ => F.length - (intOf i).toNat)
        case atStart => exact ⟨0, _, _, Nat.zero_le _, rfl, I0⟩
        case round =>
          obtain ⟨k, s, Dl, hk, rfl, I⟩ := hrel
          by_cases hlt2 : k < F.length
          · obtain ⟨hwf, _, g, off, av, capv, rfl, hg, hc0, hc1, _⟩ := hF k F[k] (List.getElem?_eq_getElem hlt2)
            have hc0' := (I.run.old.cell (p := ⟨g, off + k * 2, none⟩) hg).trans hc0
            generalize F[k].1 = fb at *
            clear hT hX hc0 hc1 I0
            go_wp2_with fail
            refine (pick_any fb B _ hwf hB1 hB2).mono ?_
            rintro e wp ⟨rfl, rfl⟩
            obtain ⟨hn1, hn2⟩ := pickOf_range fb B hB1
            generalize pickOf fb B = n at *
            go_wp2_with fail
            obtain ⟨v, hv⟩ := byte251 k
            rw [hv]
            have HV : Hid _ := hv
            clear hv
            refine (fill_any S v _ hS1.2).mono ?_
            rintro e w5 ⟨v5, rfl, rfl, hv5, hb5⟩
            have I5 := I.below hb5
            have hnwf : (Lit.int .i64 n).wf = true := wf_small hn1 (by omega)
            have hnr : inRange n B = true := by simp [inRange, hn1, hn2]
            clear I hb5 hc0'
            go_wp2_with fail
            refine (inv1_write S B k w w5 b w3.heap.size s Dl I5 (by omega) n hnwf hnr v _ (row_base hv5 (Nat.zero_le _))).mono ?_
            rintro e w6 ⟨rfl, w7, s7, Dl7, hrun7, I7⟩
            clear I5 hv5
            go_wp2
            exact ⟨⟨k + 1, s7, Dl7, by omega, by go_num, I7⟩, by simp [intOf]; omega⟩
          · obtain rfl : k = F.length := by omega
            clear hF I0
            go_wp2_with fail
            refine (inv1_barrier S B F.length w wr b w3.heap.size s Dl I (by omega)).mono ?_
            rintro e w8 ⟨rfl, s8, Ls, J0, hw0⟩
            clear I
            have hw8 : w.heap.size ≤ w8.heap.size := J0.newW
            go_wp2_with fail
            go_loopw [20] (fun i wr => ∃ (k : Nat) (s : St) (Dw : DataW Value) (c' : Nat), k ≤ T.length ∧ i = .int .i64 k ∧ c' ≤ 2 * F.length + lenTo T k ∧ Inv2 S B c' w wr b w3.heap.size w8.heap.size s Dl Dw Ls) (fun i _ => T.length - (intOf i).toNat)
            case atStart => exact ⟨0, _, _, _, Nat.zero_le _, rfl, Nat.le_refl _, J0⟩
            case round =>
              obtain ⟨k, s9, Dw, c9, hk, rfl, hc9, J⟩ := hrel
              by_cases hlt3 : k < T.length
              · obtain ⟨hwf, hpl, g, off, av, capv, rfl, hg, hc0, hc1, hvals⟩ := hT k T[k] (List.getElem?_eq_getElem hlt3)
                have hc0' := (J.run.old.cell (p := ⟨g, off + k * 2, none⟩) hg).trans hc0
                have HLk : Hid (lenTo T (k + 1) = lenTo T k + T[k].2.length) := lenTo_succ T k _ (List.getElem?_eq_getElem hlt3)
                generalize T[k].1 = fb at *
                generalize T[k].2 = vals at *
                clear hT hX hc0 J0
                go_wp2_with fail
                refine (pick_any fb B _ hwf hB1 hB2).mono ?_
                rintro e wp ⟨rfl, rfl⟩
                obtain ⟨hn1, hn2⟩ := pickOf_range fb B hB1
                generalize pickOf fb B = n at *
                have hnwf : (Lit.int .i64 n).wf = true := wf_small hn1 (by omega)
                have hnr : inRange n B = true := by simp [inRange, hn1, hn2]
                have hbnd := HLT.out (k + 1)
                rw [HLk.out] at hbnd
                clear hc0'
                go_wp2_with fail
                go_loopw [22] (fun i wr => ∃ (j : Nat) (s : St) (Dw : DataW Value) (c' : Nat), j ≤ vals.length ∧ i = .int .i64 j ∧ c' ≤ 2 * F.length + lenTo T k + j ∧ Inv2 S B c' w wr b w3.heap.size w8.heap.size s Dl Dw Ls) (fun i _ => vals.length - (intOf i).toNat)
                case atStart => exact ⟨0, s9, Dw, c9, Nat.zero_le _, rfl, hc9, J⟩
                case round =>
                  clear J
                  obtain ⟨j, s10, Dw10, c10, hj, rfl, hc10, J⟩ := hrel
                  have hc1' := (J.run.old.cell (p := ⟨g, off + k * 2 + 1, none⟩) hg).trans hc1
                  by_cases hlt4 : j < vals.length
                  · obtain ⟨g', off', rfl, hg', hcv⟩ := hvals j vals[j] (List.getElem?_eq_getElem hlt4)
                    have hcv' := (J.run.old.cell (p := ⟨g', off' + j, none⟩) hg').trans hcv
                    generalize vals[j] = v at *
                    clear hvals
                    go_wp2_with fail
                    refine (fill_any S v _ hS1.2).mono ?_
                    rintro e w11 ⟨v11, rfl, rfl, hv11, hb11⟩
                    have J11 := J.below hb11
                    clear J hb11 hc1' hcv'
                    go_wp2_with fail
                    refine (inv2_write S B c10 w w11 b _ _ s10 Dl Dw10 Ls J11 (by omega) n hnwf hnr v _ (row_base hv11 (Nat.zero_le _))).mono ?_
                    rintro e w12 ⟨rfl, s12, Wr⟩
                    clear J11 hv11
                    have hd1 := (Wr.run.old.cell (p := ⟨g, off + k * 2 + 1, none⟩) hg).trans hc1
                    have hd2 := (Wr.run.old.cell (p := ⟨g', off' + j, none⟩) hg').trans hcv
                    obtain ⟨rv, l, hlook, hrow, hwl, hrv⟩ := Wr.row hnwf
                    have hl0 := hlook w12.drew Wr.mapW
                    have hl1 := fun o => hlook (w12.alloc o) (Wr.mapW.alloc o)
                    have HL : Hid (∀ o, (Instr.lookup 38 (.map (some w8.heap.size)) (.int .i64 n) false).run Try.prog (w12.alloc o).drew = .ok rv (w12.alloc o).drew) := fun o => hlook (w12.alloc o).drew (Wr.mapW.alloc o)
                    have hl2 := HL.out
                    have hll : l.length ≤ 4194304 * 4 := by
                      have := Wr.cnt n
                      rw [hwl, List.length_map] at this
                      omega
                    have HP : Hid (∀ (w3' w4 : World) (g1 cap : Nat), w3'.ownsRow w.heap.size 5 1 (.slice (some ⟨g1, 0, none⟩) (l.length + 1) cap) (l.length + 1) (l.map encB ++ [encB v]) → (w12.alloc (.cells #[encB v] 5)).grownBy w3' rv.ownBlock → (rv.ownBlock = some g1 ∨ g1 = w12.heap.size + 1) → g1 < w3'.heap.size →
                        w4.ownsMap Try.prog 3 hW w8.heap.size (c10 + 1) (Dw10.put (key n) (.held (.slice (some ⟨g1, 0, none⟩) (l.length + 1) cap))) → w3'.grownBy w4 (some w8.heap.size) →
                        ∃ s'' Dw'', Inv2 S B (c10 + 1) w w4 b w3.heap.size w8.heap.size s'' Dl Dw'' Ls) := fun w3' w4 g1 cap a1 a2 a3 a4 a5 a6 => by
                      obtain ⟨s'', hi⟩ := Wr.put hwl hrv hrow a1 a2 a3 a4 a5 a6
                      exact ⟨s'', _, hi⟩
                    have HW : Hid (∀ (w3' : World), (w12.alloc (.cells #[encB v] 5)).grownBy w3' rv.ownBlock → w3'.ownsMap Try.prog 3 hW w8.heap.size c10 Dw10 ∧ Below w.heap.size w w3') := fun w3' hg3 => by
                      have k3 : Kept (fun i => rv.ownBlock = some i) (w12.alloc (.cells #[encB v] 5)) w3' := Kept.of_grown hg3 (fun i e => e)
                      refine ⟨map_kept (Wr.mapW.alloc _) k3 (fun e => ?_), (Wr.run.old.trans ((Below.refl _ _).alloc Wr.run.old.size _)).trans (k3.below (fun i hi => row_fresh hrow hi) (by simp; have := Wr.run.old.size; omega))⟩
                      obtain ⟨cur, hcur⟩ := bytesAt_block (row_base hrow (Nat.zero_le _) : bytesAt w12 _ rv l) _ e
                      obtain ⟨es, cl, hes, _⟩ := Wr.mapW
                      rw [hes] at hcur
                      cases hcur
                    have HR : Hid (w12.ownsRow w.heap.size 5 1 rv l.length (l.map encB)) := hrow
                    have hwsz : w.heap.size ≤ w12.heap.size := Wr.run.old.size
                    obtain ⟨i0, hi, hz0, hz1, hz2⟩ := info5'
                    clear hlook hrow hwl hrv Wr HL
                    go_wp2_with fail
                    go_region_held_law (fun W => W.cell? ⟨g, off + k * 2 + 1, none⟩ = some (.slice (some ⟨g', off', none⟩) vals.length capv) ∧ W.cell? ⟨g', off' + j, none⟩ = some (.int .u8 (v.toNat : Int))) (go_keep)
                      (first
                        | (refine step_append_lies _ rfl _ _ 29 rfl w.heap.size 5 i0 (.int .u8 0) 1 1 Try.underlying29 hi hz0 hz1 hz2 rfl (by decide) rv l.length (l.map encB) rfl (by exact HR.out.alloc _) ⟨w12.heap.size, 0, none⟩ 1 1 [.int .u8 (v.toNat : Int)] rfl rfl (by exact newsB w12 v) (oneB1 v) (by decide) (by unfold maxLen; omega) (by omega) (by simp; omega) (w12.heap.size + 1) (by simp) ?_
                           intro g1 cap1 w13 hown3 hgr3 hg3 hlt3'
                           have hgr3' : (w12.alloc (.cells #[encB v] 5)).grownBy w13 rv.ownBlock := ⟨hgr3.os, hgr3.tape, hgr3.output, hgr3.size, hgr3.block⟩
                           obtain ⟨hm13, hb13'⟩ := HW.out w13 hgr3'
                           have y1 := (hb13'.cell (p := ⟨g, off + k * 2 + 1, none⟩) hg).trans hc1
                           have y2 := (hb13'.cell (p := ⟨g', off' + j, none⟩) hg').trans hcv
                           obtain ⟨w14, hrun14, hm14, hgr14⟩ := hm13.update law3 Try.underlying38 (by unfold maxLen; omega) (key_of hnwf) (val := .slice (some ⟨g1, 0, none⟩) (l.length + 1) cap1) (d := .held (.slice (some ⟨g1, 0, none⟩) (l.length + 1) cap1)) (ps := []) rfl
                           have k14 : Kept (fun i => i = w8.heap.size) w13 w14 := Kept.of_grown hgr14 (fun i e => by cases e; rfl)
                           have u1 := kept_cell_some k14 y1 (fun e => by omega)
                           have u2 := kept_cell_some k14 y2 (fun e => by omega)))
                    all_goals
                      obtain ⟨s'', Dw'', hfin⟩ := HP.out w13 w14 g1 cap1 hown3 hgr3' hg3 hlt3' hm14 hgr14
                      clear HP HW hm13 hb13' y1 y2 u1 u2 hrun14 hm14 hgr14 k14 hown3 hgr3 hgr3' hg3 hlt3' hl0 hl1 hl2 HR hd1 hd2
                      go_wp2
                      exact ⟨⟨j + 1, s'', Dw'', c10 + 1, by omega, by go_num, by omega, hfin⟩, by simp [intOf]; omega⟩
                  · obtain rfl : j = vals.length := by omega
                    have HF2 : Hid (∃ (k' : Nat) (s : St) (Dw : DataW Value) (c' : Nat), k' ≤ T.length ∧ Value.int .i64 ((k : Int) + 1) = .int .i64 k' ∧ c' ≤ 2 * F.length + lenTo T k' ∧ Inv2 S B c' w wr b w3.heap.size w8.heap.size s Dl Dw Ls) := ⟨k + 1, s10, Dw10, c10, by omega, by go_num, by rw [HLk.out]; omega, J⟩
                    clear J hvals
                    go_wp2
                    exact ⟨HF2.out, by simp [intOf]; omega⟩
              · obtain rfl : k = T.length := by omega
                have hlb := HLT.out T.length
                clear hT J0
                have hcb : c9 ≤ 16777216 := by omega
                go_wp2_with fail
                refine (run_pending c9 w wr b s9 J.run (by omega)).mono ?_
                rintro e w15 ⟨pv, rfl, hprow, r15, k15⟩
                obtain ⟨ap, capp, gp, rfl, hap, L15⟩ := law3_start S B c9 w wr w15 b _ _ s9 Dl Dw Ls J pv hprow r15 k15
                obtain ⟨kf1, _, kf3, _⟩ := keys_facts J.run.dev.mapW
                have kmem := keys_are J.run.dev
                have krng := J.rng
                have hLs : s9.lasts = Ls := J.lasts
                have kcnt := J.cnt
                generalize hKe : intKeys s9.DW = K at *
                have HKE : Hid (intKeys s9.DW = K) := hKe
                clear hKe hprow r15 k15 J hc9 hlb HLT
                go_wp2_with fail
                go_loopw [24] (fun i wr => ∃ (t : Nat) (s' : St) (c' : Nat), t ≤ 2 ∧ i = .int .i64 t ∧ c' ≤ 2 ^ t * 16777216 ∧ Law3 S B c9 c' w wr b w3.heap.size w8.heap.size gp s' Dl Dw Ls s9.waits K ∧ ((t = 0 ∧ s' = s9) ∨ (s'.waits = (fun _ => []) ∧ s'.lasts = metTo s9 K X K.length))) (fun i _ => 2 - (intOf i).toNat)
                case atStart => exact ⟨0, s9, c9, by decide, rfl, by omega, L15, .inl ⟨rfl, rfl⟩⟩
                case round =>
                  obtain ⟨t, s', c', ht, rfl, hc', L, hst⟩ := hrel
                  by_cases hlt5 : t < 2
                  · have hc2 : c' ≤ 67108864 := by
                      have : t = 0 ∨ t = 1 := by omega
                      rcases this with rfl | rfl <;> simp at hc' <;> omega
                    have hml5 : ∀ n, (s'.waits n).length ≤ 1099511627776 := by
                      intro n
                      rcases hst with ⟨_, rfl⟩ | ⟨e, _⟩
                      · have := kcnt n; omega
                      · rw [e]; simp
                    have hfa : fatesAt wr b s' aX X := by
                      intro i f hi
                      obtain ⟨_, g, off, e1, e2, e3⟩ := hX i f hi
                      exact ⟨g, off, e1, Nat.lt_of_lt_of_le e2 L.run.old.size, fun ho => by have := L.run.new g ho; omega, (L.run.old.cell (p := ⟨g, off + i, none⟩) e2).trans e3⟩
                    go_wp2_with fail
                    refine (run_restart2 c' w wr b s' L.run (by omega) aX X capX hfa hml5).mono ?_
                    rintro e w16 ⟨rfl, s16, r16, hcalm16, hz1, hz2, hz3, hz4, k16, ho16⟩
                    have L16 := L.next r16 hcalm16 hz1 hz2 k16 ho16
                    have hlast : s16.lasts = metTo s9 K X K.length := by
                      rw [hz3]
                      rcases hst with ⟨_, rfl⟩ | ⟨e1, e2⟩
                      · rw [HKE.out]
                      · rw [keys_none L.run.dev e1]; exact e2
                    have hk0 := keys_none r16.dev hz4
                    clear L r16 k16 ho16 hz1 hz2 hz3 hfa hml5 hst
                    go_wp2_with fail
                    refine (run_pending (2 * c') w w16 b s16 L16.run (by omega)).mono ?_
                    rintro e w17 ⟨pv, rfl, hprow, r17, k17⟩
                    rw [hk0] at hprow
                    obtain ⟨ae, cape, rfl⟩ := row_slice hprow
                    have L17 := L16.next r17 L16.calm rfl rfl (k17.mono (fun i _ e => own_b i e)) (fun i hi => .inl hi)
                    clear hprow r17 k17 L16
                    go_wp2_with fail
                    refine (off_any (2 * c') w17 b s16 L17.run.dev).mono ?_
                    rintro e w18 ⟨rfl, hd18, k18⟩
                    have L18 := L17.next (L17.run.next hd18 (k18.mono (fun i _ e => own_b i e)) (fun i hi => .inl hi)) L17.calm rfl rfl (k18.mono (fun i _ e => own_b i e)) (fun i hi => .inl hi)
                    have hoff := L17.calm.off
                    rw [hoff]
                    clear L17 hd18 k18 hoff
                    have hat0 : (0 : Int) = (atOf K (0 : Nat) : Int) := by
                      have : atOf K ((0 : Nat) : Int) = 0 := atOf_zero (fun x hx => by
                        have := krng x ((kmem x).1 hx)
                        simp [inRange] at this
                        exact this.1)
                      rw [this]; rfl
                    have HA0 : Hid ((0 : Int) = (atOf K ((0 : Nat) : Int) : Int)) := hat0
                    have HLs : Hid (s9.lasts = Ls) := hLs
                    have HC2 : Hid (2 * c' ≤ 2 ^ (t + 1) * 16777216) := by
                      unfold Hid
                      rw [Nat.pow_succ]
                      omega
                    clear hat0 hLs hk0
                    go_wp2_with fail
                    go_loopw [25, 26] (fun at_ n wr => ∃ (m : Nat) (s' : St), m ≤ B ∧ n = .int .i64 m ∧ at_ = .int .i64 (atOf K m) ∧ Law3 S B c9 (2 * c') w wr b w3.heap.size w8.heap.size gp s' Dl Dw Ls s9.waits K ∧ s'.waits = (fun _ => []) ∧ s'.lasts = metTo s9 K X K.length) (fun _ n _ => B - (intOf n).toNat)
                    case atStart => exact ⟨0, s16, Nat.zero_le _, rfl, congrArg (Value.int .i64) HA0.out, L18, hz4, hlast⟩
                    case round =>
                      clear L18 hz4 hlast HA0
                      obtain ⟨m, s', hm, rfl, rfl, L, hw', hl'⟩ := hrel
                      by_cases hlt6 : m < B
                      · have hmwf : (Lit.int .i64 (m : Int)).wf = true := wf_small (by omega) (by omega)
                        have hmr : inRange (m : Int) s'.blocks = true := by rw [L.blocks]; simp [inRange]; omega
                        obtain ⟨v, hlv, hshow⟩ := L.lastLook m hmwf
                        have hsucc := atOf_succ kf1 (m : Int)
                        have hatle := atOf_le K (m : Int)
                        by_cases hA : s9.waits m = []
                        · have hlw := L.noRow m hmwf hA
                          have hnk : (m : Int) ∉ K := fun x => (kmem _).1 x hA
                          rw [if_neg hnk] at hsucc
                          have hsh : shows s' m = some (List.replicate S v) := by rw [shows_calm L.size hw', hl', metTo_not s9 K X m hnk, HLs.out]; exact hshow
                          have HSU : Hid (atOf K ((m : Int) + 1) = atOf K m) := hsucc
                          clear hsucc hshow hnk
                          generalize atOf K (m : Int) = at1 at *
                          go_wp2_with fail
                          refine (shows_ok (2 * c') w wr b s' L.run L.calm m hmwf hmr _ hsh).mono ?_
                          rintro e w19 ⟨rfl, s19, r19, hca19, q1, q2, q3, q4, q5, k19, _⟩
                          have L19 := L.next r19 hca19 q1 q2 (k19.mono (fun i _ e => own_b i e)) (fun i hi => .inl (q5 i hi))
                          clear L r19 k19 q5 hlv hlw
                          go_wp2_with fail
                          refine (fill_any S v _ hS1.2).mono ?_
                          rintro e w20 ⟨v20, rfl, rfl, hv20, hb20⟩
                          have hcv : (convert 29 9 (.slice (some ⟨w19.heap.size, 0, none⟩) S S)).run Try.prog w20 = .ok (.string (strB (List.replicate S v))) w20 := conv_bytes (row_base hv20 (Nat.zero_le _)) (by omega)
                          have L20 := L19.below hb20
                          have HW : Hid (s19.waits = (fun _ => []) ∧ s19.lasts = metTo s9 K X K.length) := ⟨by rw [q4, hw'], by rw [q3, hl']⟩
                          clear L19 hb20 hv20 q1 q2 q3 q4 hw' hl'
                          go_wp2
                          exact ⟨⟨m + 1, s19, by omega, by go_num, by rw [show ((m + 1 : Nat) : Int) = (m : Int) + 1 from by omega, HSU.out], L20, HW.out⟩, by simp [intOf]; omega⟩
                        · obtain ⟨gr, capr, l, hlw, hwl, hlen, hgr, hcells⟩ := L.rowLook m hmwf hA
                          have hk : (m : Int) ∈ K := (kmem _).2 hA
                          rw [if_pos hk] at hsucc
                          have hKat := atOf_mem kf1 hk
                          have hatlt : atOf K (m : Int) < K.length := (List.getElem?_eq_some_iff.1 hKat).1
                          obtain ⟨hp1, hp2, hpc0, hpc1⟩ := L.pend _ _ hKat
                          have hapx := hap _ _ hKat
                          subst hapx
                          have hll : (s9.waits m).length = l.length := by rw [hwl]; simp
                          have hlb : l.length ≤ 16777216 := by have := kcnt m; omega
                          rw [hll] at hpc1
                          have hmet : metTo s9 K X K.length m = afterFate s9 m X[atOf K (m : Int)]? := by
                            rw [metTo_at s9 K X kf1 _ _ hKat K.length, if_neg (by omega)]
                          have hshw : shows s' m = lastShows S (afterFate s9 m X[atOf K (m : Int)]?) := by rw [shows_calm L.size hw', hl', hmet]
                          have HSU : Hid (atOf K ((m : Int) + 1) = atOf K m + 1) := hsucc
                          have hKl : (K.length : Int) ≤ 16777216 := by omega
                          clear hsucc hk hKat hp2 hmet hap
                          generalize atOf K (m : Int) = at1 at *
                          by_cases hx : at1 < X.length
                          · obtain ⟨hfwf, gx, offx, rfl, hgx, hcx⟩ := hX at1 X[at1] (List.getElem?_eq_getElem hx)
                            have hcx' := (L.run.old.cell (p := ⟨gx, offx + at1, none⟩) hgx).trans hcx
                            rw [List.getElem?_eq_getElem hx] at hshw
                            generalize X[at1] = f at *
                            by_cases hf1 : 1 ≤ f
                            · by_cases hf2 : f ≤ (l.length : Int)
                              · -- one of the waiting writes
                                have hix : (f - 1).toNat < l.length := by omega
                                have hcl := hcells (f - 1).toNat l[(f - 1).toNat] (List.getElem?_eq_getElem hix)
                                have hsh : shows s' m = some (List.replicate S l[(f - 1).toNat]) := by rw [hshw, after_in S s9 m l hwl f hf1 _ (List.getElem?_eq_getElem hix)]; rfl
                                have hbad : (f == (l.length : Int) + 1) = false := by rw [beq_eq_false_iff_ne]; omega
                                generalize l[(f - 1).toNat] = u at *
                                rw [show (f - 1).toNat = f.toNat - 1 from by omega] at hcl
                                clear hshw hshow hcells hix
                                go_wp2_with fail
                                refine (shows_ok (2 * c') w wr b s' L.run L.calm m hmwf hmr _ hsh).mono ?_
                                rintro e w19 ⟨rfl, s19, r19, hca19, q1, q2, q3, q4, q5, k19, _⟩
                                have L19 := L.next r19 hca19 q1 q2 (k19.mono (fun i _ e => own_b i e)) (fun i hi => .inl (q5 i hi))
                                clear L r19 k19 q5 hlv hlw hpc0 hpc1 hcx' hcx
                                go_wp2_with fail
                                refine (fill_any S u _ hS1.2).mono ?_
                                rintro e w20 ⟨v20, rfl, rfl, hv20, hb20⟩
                                have hcv : (convert 29 9 (.slice (some ⟨w19.heap.size, 0, none⟩) S S)).run Try.prog w20 = .ok (.string (strB (List.replicate S u))) w20 := conv_bytes (row_base hv20 (Nat.zero_le _)) (by omega)
                                have L20 := L19.below hb20
                                have HW : Hid (s19.waits = (fun _ => []) ∧ s19.lasts = metTo s9 K X K.length) := ⟨by rw [q4, hw'], by rw [q3, hl']⟩
                                clear L19 hb20 hv20 q1 q2 q3 q4 hw' hl'
                                go_wp2
                                exact ⟨⟨m + 1, s19, by omega, by go_num, by rw [show ((m + 1 : Nat) : Int) = (m : Int) + 1 from by omega, HSU.out]; go_num, L20, HW.out⟩, by simp [intOf]; omega⟩
                              · by_cases hf3 : f = (l.length : Int) + 1
                                · -- it cannot be read
                                  have hsh : shows s' m = none := by rw [hshw, after_bad S s9 m l hwl f hf3]; rfl
                                  have hbad : (f == (l.length : Int) + 1) = true := by rw [beq_iff_eq]; exact hf3
                                  have hf4 : decide (f ≤ (l.length : Int)) = false := by simpa using hf2
                                  clear hshw hshow hcells hf3
                                  go_wp2_with fail
                                  refine (shows_bad (2 * c') w wr b s' L.run L.calm m hmwf hmr hsh).mono ?_
                                  rintro e w19 ⟨⟨x19, rfl⟩, r19, k19⟩
                                  have L19 := L.next r19 L.calm rfl rfl (k19.mono (fun i _ e => own_b i e)) (fun i hi => .inl hi)
                                  have HW : Hid (s'.waits = (fun _ => []) ∧ s'.lasts = metTo s9 K X K.length) := ⟨hw', hl'⟩
                                  clear L r19 k19 hlv hlw hpc0 hpc1 hcx' hcx hw' hl'
                                  go_wp2
                                  exact ⟨⟨m + 1, s', by omega, by go_num, by rw [show ((m + 1 : Nat) : Int) = (m : Int) + 1 from by omega, HSU.out]; go_num, L19, HW.out⟩, by simp [intOf]; omega⟩
                                · -- a number beyond all
                                  have hsh : shows s' m = some (List.replicate S v) := by rw [hshw, after_else S s9 m l hwl f (.inr (by omega)), HLs.out]; exact hshow
                                  have hbad : (f == (l.length : Int) + 1) = false := by rw [beq_eq_false_iff_ne]; exact hf3
                                  have hf4 : decide (f ≤ (l.length : Int)) = false := by simpa using hf2
                                  clear hshw hshow hcells hf3
                                  go_wp2_with fail
                                  refine (shows_ok (2 * c') w wr b s' L.run L.calm m hmwf hmr _ hsh).mono ?_
                                  rintro e w19 ⟨rfl, s19, r19, hca19, q1, q2, q3, q4, q5, k19, _⟩
                                  have L19 := L.next r19 hca19 q1 q2 (k19.mono (fun i _ e => own_b i e)) (fun i hi => .inl (q5 i hi))
                                  clear L r19 k19 q5 hlv hlw hpc0 hpc1 hcx' hcx
                                  go_wp2_with fail
                                  refine (fill_any S v _ hS1.2).mono ?_
                                  rintro e w20 ⟨v20, rfl, rfl, hv20, hb20⟩
                                  have hcv : (convert 29 9 (.slice (some ⟨w19.heap.size, 0, none⟩) S S)).run Try.prog w20 = .ok (.string (strB (List.replicate S v))) w20 := conv_bytes (row_base hv20 (Nat.zero_le _)) (by omega)
                                  have L20 := L19.below hb20
                                  have HW : Hid (s19.waits = (fun _ => []) ∧ s19.lasts = metTo s9 K X K.length) := ⟨by rw [q4, hw'], by rw [q3, hl']⟩
                                  clear L19 hb20 hv20 q1 q2 q3 q4 hw' hl'
                                  go_wp2
                                  exact ⟨⟨m + 1, s19, by omega, by go_num, by rw [show ((m + 1 : Nat) : Int) = (m : Int) + 1 from by omega, HSU.out]; go_num, L20, HW.out⟩, by simp [intOf]; omega⟩
                            · -- no number of a write
                              have hsh : shows s' m = some (List.replicate S v) := by rw [hshw, after_else S s9 m l hwl f (.inl (by omega)), HLs.out]; exact hshow
                              have hbad : (f == (l.length : Int) + 1) = false := by rw [beq_eq_false_iff_ne]; omega
                              have hf4 : decide (1 ≤ f) = false := by simpa using hf1
                              clear hshw hshow hcells
                              go_wp2_with fail
                              refine (shows_ok (2 * c') w wr b s' L.run L.calm m hmwf hmr _ hsh).mono ?_
                              rintro e w19 ⟨rfl, s19, r19, hca19, q1, q2, q3, q4, q5, k19, _⟩
                              have L19 := L.next r19 hca19 q1 q2 (k19.mono (fun i _ e => own_b i e)) (fun i hi => .inl (q5 i hi))
                              clear L r19 k19 q5 hlv hlw hpc0 hpc1 hcx' hcx
                              go_wp2_with fail
                              refine (fill_any S v _ hS1.2).mono ?_
                              rintro e w20 ⟨v20, rfl, rfl, hv20, hb20⟩
                              have hcv : (convert 29 9 (.slice (some ⟨w19.heap.size, 0, none⟩) S S)).run Try.prog w20 = .ok (.string (strB (List.replicate S v))) w20 := conv_bytes (row_base hv20 (Nat.zero_le _)) (by omega)
                              have L20 := L19.below hb20
                              have HW : Hid (s19.waits = (fun _ => []) ∧ s19.lasts = metTo s9 K X K.length) := ⟨by rw [q4, hw'], by rw [q3, hl']⟩
                              clear L19 hb20 hv20 q1 q2 q3 q4 hw' hl'
                              go_wp2
                              exact ⟨⟨m + 1, s19, by omega, by go_num, by rw [show ((m + 1 : Nat) : Int) = (m : Int) + 1 from by omega, HSU.out]; go_num, L20, HW.out⟩, by simp [intOf]; omega⟩
                          · rw [List.getElem?_eq_none (by omega)] at hshw
                            have hsh : shows s' m = some (List.replicate S v) := by rw [hshw]; show lastShows S (s9.lasts m) = _; rw [HLs.out]; exact hshow
                            clear hshw hshow hcells
                            go_wp2_with fail
                            refine (shows_ok (2 * c') w wr b s' L.run L.calm m hmwf hmr _ hsh).mono ?_
                            rintro e w19 ⟨rfl, s19, r19, hca19, q1, q2, q3, q4, q5, k19, _⟩
                            have L19 := L.next r19 hca19 q1 q2 (k19.mono (fun i _ e => own_b i e)) (fun i hi => .inl (q5 i hi))
                            clear L r19 k19 q5 hlv hlw hpc0 hpc1
                            have hbad : ((0 : Int) == (l.length : Int) + 1) = false := by rw [beq_eq_false_iff_ne]; omega
                            go_wp2_with fail
                            refine (fill_any S v _ hS1.2).mono ?_
                            rintro e w20 ⟨v20, rfl, rfl, hv20, hb20⟩
                            have hcv : (convert 29 9 (.slice (some ⟨w19.heap.size, 0, none⟩) S S)).run Try.prog w20 = .ok (.string (strB (List.replicate S v))) w20 := conv_bytes (row_base hv20 (Nat.zero_le _)) (by omega)
                            have L20 := L19.below hb20
                            have HW : Hid (s19.waits = (fun _ => []) ∧ s19.lasts = metTo s9 K X K.length) := ⟨by rw [q4, hw'], by rw [q3, hl']⟩
                            clear L19 hb20 hv20 q1 q2 q3 q4 hw' hl'
                            go_wp2
                            exact ⟨⟨m + 1, s19, by omega, by go_num, by rw [show ((m + 1 : Nat) : Int) = (m : Int) + 1 from by omega, HSU.out]; go_num, L20, HW.out⟩, by simp [intOf]; omega⟩
                      · go_wp2
                        exact ⟨⟨t + 1, s', 2 * c', by omega, by go_num, HC2.out, L, .inr ⟨hw', hl'⟩⟩, by simp [intOf]; omega⟩
                  · go_wp2
                    go_ret
                    exact ⟨rfl, L.run.old⟩
    · have hle' : decide ((sumTo F T k : Int) ≤ 2147483647 / (S : Int)) = false := by simpa using hle
      have hgt : (2147483647 : Int) / (S : Int) < (sumTo F T k : Int) := by omega
      clear hF hX hT hd3 hb3
      generalize sumTo F T k = sm at *
      by_cases hlt : k < T.length
      · go_wp2
        go_ret
        exact ⟨rfl, hb13⟩
      · go_wp2
        go_ret
        exact ⟨rfl, hb13⟩
end Go.Proofs.Ytphnajphgiinfaa
