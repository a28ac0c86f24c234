/- pieces. -/
import Derived.Test.YtkjjgbaoicjbaabGone
namespace Go.Proofs.Ytkjjgbaoicjbaab
open Go.RowKit

/-- What pieces gives. -/
structure PiecesPost (w : World) (M : List Ms) (r : Ending) (w' : World) : Prop where
  is : ∃ (v : Value) (F : List Pt) (C : List Key), r = .returned v ∧ IsCuts M C ∧ pcsOf F = piecesM M C ∧ F.length ≤ C.length ∧ C.length ≤ 2 * M.length ∧ Pcs w.heap.size w' v F ∧ Below w.heap.size w w'
/-- What stays while pieces are made. -/
structure Stay (w wx : World) (M : List Ms) (D : List Kc) (cv : Value) (gl : Nat) : Prop where
  cuts : KeysV w.heap.size wx cv D
  ok : ∀ e ∈ D, KeyK w.heap.size wx e.v e.k
  last : RowI wx gl ((keysOf D).map (lastM M))
  low : Below w.heap.size w wx
theorem RowI.keep {T B : Nat} {w w' : World} {g : Nat} {xs : List Int} (h : RowI w g xs) (hk : Keep T B w w') (hT : 3 ≠ T) : RowI w' g xs := ⟨hk.typ _ _ _ _ hT h.row⟩
theorem Stay.keep {w wx wy : World} {M : List Ms} {D : List Kc} {cv : Value} {gl : Nat} (h : Stay w wx M D cv gl) {T : Nat} (hk : Keep T w.heap.size wx wy) (h1 : 3 ≠ T) (h2 : 23 ≠ T) (h3 : 5 ≠ T) : Stay w wy M D cv gl :=
  ⟨h.cuts.keep hk h2, fun e he => (h.ok e he).keep hk h3, h.last.keep hk h1, h.low.trans hk.low⟩
theorem Stay.here {w wx wy : World} {M : List Ms} {D : List Kc} {cv : Value} {gl : Nat} (h : Stay w wx M D cv gl) (hb : Below wx.heap.size wx wy) : Stay w wy M D cv gl :=
  h.keep (T := 49) (Keep.of hb h.low.size) (by decide) (by decide) (by decide)

set_option maxHeartbeats 3200000 in
set_option maxRecDepth 100000 in
theorem pieces_any {w : World} {v : Value} {L : List Mt} (hL : MsgsAt w.heap.size w v L) (hlo : ∀ e ∈ L, e.m.lo.length ≤ 4294967296) (hsm : (2 * L.length + 1) * 112 ≤ 140737488355328) :
    Calls Try.prog 29 #[v] w fun r w' => PiecesPost w (msOf L) r w' := by
  obtain ⟨a, c, rfl⟩ := hL.form
  have HL : Hid (MsgsAt w.heap.size w (.slice a L.length c) L) := hL
  have HDE := decided_any hL hlo
  clear hL hlo
  go_enter Try.func29, Try.ntmps29
  go_wp2_with fail
  refine HDE.mono ?_
  rintro r w1 ⟨cv, D, gl, rfl, hcu, hcv, hck, hgl, hrl, hb1, hdl⟩
  have HCU : Hid (IsCuts (msOf L) (keysOf D)) := hcu
  obtain ⟨ca, cc, hcf⟩ := hcv.form
  rw [hcf] at hcv
  rw [hcf]
  have HST : Hid (Stay w w1 (msOf L) D (.slice ca D.length cc) gl) := ⟨hcv, hck, hrl, hb1⟩
  rw [msOf_length] at hdl
  have HSL : Hid (((keysOf D).map (lastM (msOf L))).length = D.length) := by rw [Hid, List.length_map, keysOf_length]
  clear hcu hcv hck hgl hrl hb1 hcf HDE
  go_wp2_with fail
  go_loopw [5, 17] (fun l i wx => ∃ (n : Nat) (F : List Pt), n ≤ D.length ∧ i = .int .i64 n ∧ pcsOf F = piecesN (msOf L) (keysOf D) n ∧ F.length ≤ n ∧ Pcs w.heap.size wx l F ∧ Stay w wx (msOf L) D (.slice ca D.length cc) gl) (fun _ i _ => D.length - (intOf i).toNat)
  case atStart => exact ⟨0, [], by omega, rfl, rfl, Nat.le_refl _, Pcs.nil _ _, HST.out⟩
  case round =>
    obtain ⟨n, F, hn, rfl, hpc, hfn, hpp, hst⟩ := hrel
    have HPC : Hid (pcsOf F = piecesN (msOf L) (keysOf D) n) := hpc
    have HPP : Hid (Pcs w.heap.size wr u5 F) := hpp
    have HSY : Hid (Stay w wr (msOf L) D (.slice ca D.length cc) gl) := hst
    obtain ⟨ua, uc, hu⟩ := own_form' hpp.own
    clear hpc hpp hst HST
    subst hu
    by_cases hlt : n < D.length
    · have hz : (n : Int) < (D.length : Int) := by omega
      obtain ⟨d, hd⟩ : ∃ d, D[n]? = some d := ⟨_, List.getElem?_eq_getElem hlt⟩
      have hkd : (keysOf D)[n]? = some d.k := by simp [keysOf, hd]
      have hx : ((keysOf D).map (lastM (msOf L)))[n]? = some (lastM (msOf L) d.k) := by rw [List.getElem?_map, hkd]; rfl
      have c1 := HSY.out.last.cell hx
      have HPN : Hid (piecesN (msOf L) (keysOf D) (n + 1) = stepP (msOf L) (keysOf D) (piecesN (msOf L) (keysOf D) n) n) := rfl
      by_cases hx0 : lastM (msOf L) d.k < 0
      · have HN : Hid (pcsOf F = piecesN (msOf L) (keysOf D) (n + 1)) := by
          rw [Hid, HPN.out, stepP, hkd]; simp only; rw [decM_none.2 hx0]; exact HPC.out
        clear hx hkd hd HPN
        go_wp2
        exact ⟨⟨n + 1, F, by omega, by go_num, HN.out, by omega, HPP.out, HSY.out⟩, by simp [intOf]; omega⟩
      · obtain ⟨i, m, hli, hmi, hsay, _⟩ := lastM_some (M := msOf L) (k := d.k) (by omega)
        have hil : i < L.length := by have := lastM_lt (msOf L) d.k; rw [msOf_length] at this; omega
        obtain ⟨e, he⟩ : ∃ e, L[i]? = some e := ⟨_, List.getElem?_eq_getElem hil⟩
        obtain rfl : e.m = m := by rw [msOf_get he] at hmi; exact Option.some.inj hmi
        have hdec : decM (msOf L) d.k = some e.m := by rw [decM, if_neg hx0, hli]; exact hmi
        have HSP : Hid (piecesN (msOf L) (keysOf D) (n + 1) = if e.m.kd = 1 then pcsOf F ++ [⟨true, d.k, e.m.va, [], []⟩] else goneB (pcsOf F) d.k ((keysOf D)[n + 1]?.getD [])) := by
          rw [Hid, HPN.out, stepP, hkd]; simp only; rw [hdec, HPC.out]
        have HNX : Hid (n + 1 < D.length) := by have := HCU.out.last hkd (by omega); rwa [keysOf_length] at this
        rw [hli] at c1 hx0
        have hi0 : ¬ (i : Int) < 0 := by omega
        have hiL : (i : Int) < (L.length : Int) := by omega
        have hL := HL.out.here HSY.out.low
        obtain ⟨g, off, c', e1, k0, k1, k2, k3, k4⟩ := hL.cells i e he
        cases e1
        have HOK : Hid (e.Ok wr.heap.size wr) := hL.ok e (List.mem_of_getElem? he)
        have HOW : Hid (e.Ok w.heap.size w) := HL.out.ok e (List.mem_of_getElem? he)
        have HDK : Hid (KeyK w.heap.size wr d.v d.k) := HSY.out.ok d (List.mem_of_getElem? hd)
        obtain ⟨gc, cc', e2, kc⟩ := HSY.out.cuts.cell hd
        cases e2
        obtain ⟨da, dc, hdv⟩ := HDK.out.form
        obtain ⟨a1, c1', f1⟩ := HOK.out.lo.form
        obtain ⟨a2, c2', f2⟩ := HOK.out.hi.form
        obtain ⟨a3, c3', f3⟩ := HOK.out.va.form
        have HD : Hid (D[n]? = some d) := hd
        have HDO := deedOf_any HOK.out
        have HGI : Hid (∀ W', Below wr.heap.size wr W' → Calls Try.prog 32 #[deedV e] W' fun r w' => r = .returned (.tuple #[.bool (isPut e.m), valM e]) ∧ Below W'.heap.size W' w') := fun W' hb => given_any (HOK.out.here hb)
        have HVV : Hid (e.m.kd = 1 → valM e = .slice a3 e.m.va.length c3') := fun h => by rw [valM, if_pos h, f3]
        have HVA : Hid (KeyK w.heap.size wr (.slice a3 e.m.va.length c3') e.m.va) := by rw [← f3]; exact ⟨.inl (HOW.out.va.below HSY.out.low)⟩
        clear hx hkd hd HPN hli hmi hsay he hL hdec
        rw [f1] at k2
        rw [f2] at k3
        rw [f3] at k4
        unfold Mt.val at HDO
        rw [f1, f2, f3] at HDO
        rw [hdv] at kc HDK
        generalize deedV e = dv at HDO HGI
        go_wp2_with fail
        refine HDO.mono ?_
        rintro r w2 ⟨rfl, hb2⟩
        have HB2 : Hid (Below wr.heap.size wr w2) := hb2
        have HGV := HGI.out w2 hb2
        clear hb2 HDO k0 k1 k2 k3 k4 c1
        by_cases hkd : e.m.kd = 1
        · rw [show isPut e.m = true from decide_eq_true hkd, HVV.out hkd] at HGV
          have HN : Hid (piecesN (msOf L) (keysOf D) (n + 1) = pcsOf F ++ [⟨true, d.k, e.m.va, [], []⟩]) := by rw [Hid, HSP.out, if_pos hkd]
          clear hkd HVV HSP
          go_wp2_with fail
          refine HGV.mono ?_
          rintro r w3 ⟨rfl, hb3⟩
          have HB3 : Hid (Below wr.heap.size wr w3) := HB2.out.trans (hb3.mono HB2.out.size)
          have hbw := HSY.out.low.size
          have HP3 : Hid (Pcs w.heap.size w3 (.slice ua F.length uc) F) := HPP.out.here hbw HB3.out
          have HS3 : Hid (Stay w w3 (msOf L) D (.slice (some ⟨gc, 0, none⟩) D.length cc) gl) := HSY.out.here HB3.out
          have kc3 : w3.cell? ⟨gc, n, none⟩ = some (.slice da d.k.length dc) := by
            obtain ⟨_, _, e2, kk⟩ := HS3.out.cuts.cell HD.out
            cases e2; rw [kk, hdv]
          have HD3 : Hid (KeyK w.heap.size w3 (.slice da d.k.length dc) d.k) := HDK.out.here hbw HB3.out
          have HV3 : Hid (KeyK w.heap.size w3 (.slice a3 e.m.va.length c3') e.m.va) := HVA.out.here hbw HB3.out
          have hb3s : w.heap.size ≤ w3.heap.size := Nat.le_trans hbw HB3.out.size
          clear hb3 HGV HGI kc
          go_wp2_with (at_builtin
                       have HBM : Below w3.heap.size w3 (w3.alloc (.cells #[.bool true, .slice da d.k.length dc, .slice a3 e.m.va.length c3', .slice none 0 0, .slice none 0 0, .bool false] 49)) := below_new _ _
                       refine wpList_append_pcs rfl _ _ rfl w.heap.size (.slice ua F.length uc) F ⟨.slice da d.k.length dc, .slice a3 e.m.va.length c3', .slice none 0 0, .slice none 0 0, ⟨true, d.k, e.m.va, [], []⟩⟩ w3.heap.size rfl (HP3.out.here hb3s HBM) rfl (heap_alloc_last _ _) ⟨HD3.out.here hb3s HBM, HV3.out.here hb3s HBM, KeyK.nil _ _, KeyK.nil _ _⟩ (by omega) (by have := HBM.size; omega) ?_
                       intro v4 w4 hp4 hk4
                       have HP4 : Hid (Pcs w.heap.size w4 v4 (F ++ [⟨.slice da d.k.length dc, .slice a3 e.m.va.length c3', .slice none 0 0, .slice none 0 0, ⟨true, d.k, e.m.va, [], []⟩⟩])) := hp4
                       have HS4 : Hid (Stay w w4 (msOf L) D (.slice (some ⟨gc, 0, none⟩) D.length cc) gl) := (HS3.out.here HBM).keep hk4 (by decide) (by decide) (by decide)
                       clear hp4 hk4 HBM)
          exact ⟨⟨n + 1, _, by omega, by go_num, by rw [HN.out]; simp [pcsOf], by simp; omega, HP4.out, HS4.out⟩, by simp [intOf]; omega⟩
        · rw [show isPut e.m = false from decide_eq_false hkd] at HGV
          obtain ⟨vv, hvv⟩ : ∃ vv, vv = valM e := ⟨_, rfl⟩
          rw [← hvv] at HGV
          obtain ⟨d2, hd2⟩ : ∃ d2, D[n + 1]? = some d2 := ⟨_, List.getElem?_eq_getElem HNX.out⟩
          have HN : Hid (piecesN (msOf L) (keysOf D) (n + 1) = goneB (pcsOf F) d.k d2.k) := by
            rw [Hid, HSP.out, if_neg hkd, show (keysOf D)[n + 1]? = some d2.k by simp [keysOf, hd2]]; rfl
          have HD2 : Hid (D[n + 1]? = some d2) := hd2
          have HDK2 : Hid (KeyK w.heap.size wr d2.v d2.k) := HSY.out.ok d2 (List.mem_of_getElem? hd2)
          obtain ⟨da2, dc2, hdv2⟩ := HDK2.out.form
          rw [hdv2] at HDK2
          obtain ⟨j, hj⟩ : ∃ j, j = n + 1 := ⟨_, rfl⟩
          have hn1 : (n : Int) + 1 = (j : Int) := by omega
          have hn2 : (j : Int) < (D.length : Int) := by have := HNX.out; omega
          have hn3 := wrapk_nat j (by have := HNX.out; omega)
          have HJ : Hid (j = n + 1) := hj
          have hDs : D.length ≤ 140737488355328 := by omega
          clear hkd HVV HSP hvv hd2 hj
          go_wp2_with fail
          refine HGV.mono ?_
          rintro r w3 ⟨rfl, hb3⟩
          have HB3 : Hid (Below wr.heap.size wr w3) := HB2.out.trans (hb3.mono HB2.out.size)
          have hbw := HSY.out.low.size
          have hb3s : w.heap.size ≤ w3.heap.size := Nat.le_trans hbw HB3.out.size
          have HP3 : Hid (Pcs w.heap.size w3 (.slice ua F.length uc) F) := HPP.out.here hbw HB3.out
          have HS3 : Hid (Stay w w3 (msOf L) D (.slice (some ⟨gc, 0, none⟩) D.length cc) gl) := HSY.out.here HB3.out
          have kc3 : w3.cell? ⟨gc, n, none⟩ = some (.slice da d.k.length dc) := by
            obtain ⟨_, _, e2, kk⟩ := HS3.out.cuts.cell HD.out
            cases e2; rw [kk, hdv]
          have kc4 : w3.cell? ⟨gc, j, none⟩ = some (.slice da2 d2.k.length dc2) := by
            obtain ⟨_, _, e2, kk⟩ := HS3.out.cuts.cell HD2.out
            cases e2; rw [HJ.out, kk, hdv2]
          have HD3 : Hid (KeyK w.heap.size w3 (.slice da d.k.length dc) d.k) := HDK.out.here hbw HB3.out
          have HD4 : Hid (KeyK w.heap.size w3 (.slice da2 d2.k.length dc2) d2.k) := HDK2.out.here hbw HB3.out
          have HGO : Hid (∀ W', Below w3.heap.size w3 W' → Calls Try.prog 47 #[.slice ua F.length uc, .agg #[.slice da d.k.length dc, .slice da2 d2.k.length dc2, .bool false]] W' fun r w' => GonePost w.heap.size W' F d.k d2.k r w') := fun W' hb => gone_any (Nat.le_trans hb3s hb.size) (HP3.out.here hb3s hb) (HD3.out.here hb3s hb) (HD4.out.here hb3s hb) (by omega)
          clear hb3 HGV HGI kc
          go_wp2_with fail
          go_region_with (
            go_at_call 47
            refine (HGO.out _ (by first | exact Below.refl _ _ | exact (Below.refl _ _).drew)).mono ?_
            rintro r w4 ⟨v4, F', rfl, h1, h2, h3, h4⟩
            have HQ1 : Hid (pcsOf F' = goneB (pcsOf F) d.k d2.k) := h1
            have HQ2 : Hid (F'.length ≤ F.length + 1) := h2
            have HQ3 : Hid (Pcs w.heap.size w4 v4 F') := h3
            have HS5 : Hid (Stay w w4 (msOf L) D (.slice (some ⟨gc, 0, none⟩) D.length cc) gl) := HS3.out.keep ((Keep.of (by first | exact Below.refl _ _ | exact (Below.refl _ _).drew) hb3s).trans h4) (by decide) (by decide) (by decide)
            clear h1 h2 h3 h4)
          all_goals
            go_wp2
            exact ⟨⟨n + 1, F', by omega, by go_num, by rw [HN.out]; exact HQ1.out, by have := HQ2.out; omega, HQ3.out, HS5.out⟩, by simp [intOf]; omega⟩
    · have hz : ¬ (n : Int) < (D.length : Int) := by omega
      obtain rfl : n = D.length := by omega
      have HP : Hid (PiecesPost w (msOf L) (.returned (.slice ua F.length uc)) wr) := ⟨_, F, keysOf D, rfl, HCU.out, by rw [HPC.out, piecesM, keysOf_length], by rw [keysOf_length]; exact hfn, by rw [keysOf_length, msOf_length]; exact hdl, HPP.out, HSY.out.low⟩
      go_wp2
      go_ret
      exact HP.out
end Go.Proofs.Ytkjjgbaoicjbaab
