/- The law's of: what pieces say of a key. -/
import Derived.Test.YtkjjgbaoicjbaaaPcs
import Derived.Test.YtkjjgbaoicjbaaaFormPure
namespace Go.Proofs.Ytkjjgbaoicjbaaa
open Go.RowKit

structure OfPost (base : Nat) (w : World) (P : List Pc) (k : Key) (r : Ending) (w' : World) : Prop where
  is : ∃ vv, r = .returned (.tuple #[.int .i64 ((ofP P k).n : Nat), .bool (ofP P k).is, vv]) ∧ KeyK base w' vv (ofP P k).v ∧ Below w.heap.size w w'
theorem pcsOf_get {F : List Pt} {i : Nat} {e : Pt} (h : F[i]? = some e) : (pcsOf F)[i]? = some e.p := by simp [pcsOf, h]

set_option maxHeartbeats 3200000 in
set_option maxRecDepth 100000 in
theorem of_any {base : Nat} {w : World} {v u : Value} {F : List Pt} {k : Key} (hp : Pcs base w v F) (hB : base ≤ w.heap.size) (hu : KeyAt w u k)  (hs : F.length ≤ 1099511627776) :
    Calls Try.prog 18 #[v, u] w fun r w' => OfPost base w (pcsOf F) k r w' := by
  obtain ⟨ua, uc, e⟩ := own_form' hp.own
  subst e
  obtain ⟨au, cu, e⟩ := hu.in.form
  subst e
  have HP : Hid (Pcs base w (.slice ua F.length uc) F) := hp
  have HU : Hid (KeyAt w (.slice au k.length cu) k) := hu
  clear hp hu
  go_enter Try.func18, Try.ntmps18
  go_wp2_with fail
  go_loopw [7, 8, 9, 10] (fun s b t i wx => ∃ (n m : Nat) (q : Bool) (y : Key), n ≤ F.length ∧ i = .int .i64 n ∧ s = .int .i64 m ∧ m ≤ n ∧ b = .bool q ∧ ofP ((pcsOf F).take n) k = ⟨m, q, y⟩ ∧ KeyK base wx t y ∧ Below w.heap.size w wx) (fun _ _ _ i _ => F.length - (intOf i).toNat)
  case atStart => exact ⟨0, 0, false, [], by omega, rfl, rfl, by omega, rfl, rfl, KeyK.nil _ _, Below.refl _ _⟩
  case round =>
    obtain ⟨n, m, q, y, hn, rfl, rfl, hmn, rfl, hof, hky, hbw⟩ := hrel
    have HOF : Hid (ofP ((pcsOf F).take n) k = ⟨m, q, y⟩) := hof
    have HKY : Hid (KeyK base wr u9 y) := hky
    have HBW : Hid (Below w.heap.size w wr) := hbw
    clear hof hky hbw
    by_cases hlt : n < F.length
    · have hz : (n : Int) < (F.length : Int) := by omega
      obtain ⟨e, he⟩ : ∃ e, F[n]? = some e := ⟨_, List.getElem?_eq_getElem hlt⟩
      have hBr : base ≤ wr.heap.size := Nat.le_trans hB HBW.out.size
      have hP := HP.out.here hB HBW.out
      have hok := hP.ok e (List.mem_of_getElem? he)
      obtain ⟨g, cg, e1, hg0, hgc, ⟨cur, hcur⟩, hce⟩ := hP.cells he
      cases e1
      have hgl : g < wr.heap.size := (Array.getElem?_eq_some_iff.1 hcur).1
      obtain ⟨ak, ck, f1⟩ := hok.k.form
      obtain ⟨av, cv, f2⟩ := hok.v.form
      obtain ⟨al, cl, f3⟩ := hok.lo.form
      obtain ⟨ah, ch, f4⟩ := hok.hi.form
      have HOK : Hid (e.Ok base wr) := hok
      have HCE : Hid (∀ W', Below wr.heap.size wr W' → W'.cell? ⟨g, n * 6, none⟩ = some (.bool e.p.put) ∧ W'.cell? ⟨g, n * 6 + 1, none⟩ = some (.slice ak e.p.k.length ck) ∧ W'.cell? ⟨g, n * 6 + 2, none⟩ = some (.slice av e.p.v.length cv) ∧ W'.cell? ⟨g, n * 6 + 3, none⟩ = some (.slice al e.p.lo.length cl) ∧ W'.cell? ⟨g, n * 6 + 3 + 1, none⟩ = some (.slice ah e.p.hi.length ch) ∧ W'.cell? ⟨g, n * 6 + 3 + 2, none⟩ = some (.bool false)) := fun W' hb => by
        refine ⟨?_, ?_, ?_, ?_, ?_, ?_⟩
        · rw [hb.cell (p := ⟨g, n * 6, none⟩) hgl]; exact hce 0 _ rfl
        · rw [hb.cell (p := ⟨g, n * 6 + 1, none⟩) hgl, ← f1]; exact hce 1 _ rfl
        · rw [hb.cell (p := ⟨g, n * 6 + 2, none⟩) hgl, ← f2]; exact hce 2 _ rfl
        · rw [hb.cell (p := ⟨g, n * 6 + 3, none⟩) hgl, ← f3]; exact hce 3 _ rfl
        · rw [hb.cell (p := ⟨g, n * 6 + 3 + 1, none⟩) hgl, ← f4]; exact hce 4 _ rfl
        · rw [hb.cell (p := ⟨g, n * 6 + 3 + 2, none⟩) hgl]; exact hce 5 _ rfl
      have HST : Hid (ofP ((pcsOf F).take (n + 1)) k = ofStep k ⟨m, q, y⟩ e.p) := by rw [Hid, ofP_take (pcsOf_get he), HOF.out]
      have HHA : Hid (∀ W', Below wr.heap.size wr W' → Calls Try.prog 26 #[.agg #[.slice al e.p.lo.length cl, .slice ah e.p.hi.length ch, .bool false], .slice au k.length cu] W' fun r w' => r = .returned (.bool (Rg.has ⟨e.p.lo, e.p.hi, false⟩ k)) ∧ Below W'.heap.size W' w') := fun W' hb => by
        have h := HOK.out.here hBr hb
        have hs' := Nat.le_trans hBr hb.size
        refine has_any (r := ⟨e.p.lo, e.p.hi, false⟩) ⟨_, _, rfl, ?_, ?_⟩ ((HU.out.here HBW.out).here hb)
        · rw [← f3]; exact h.lo.at hs'
        · rw [← f4]; exact h.hi.at hs'
      have HCK : Hid (Calls Try.prog 16 #[.slice ak e.p.k.length ck, .slice au k.length cu] wr fun r w' => r = .returned (.int .i64 (cmpK e.p.k k)) ∧ ∃ q, w' = wr.drewN q) := by
        rw [Hid, ← f1]; exact compare_key (HOK.out.k.at hBr) (HU.out.here HBW.out)
      obtain ⟨c0, c1, c2, c3, c4, c5⟩ := HCE.out wr (Below.refl _ _)
      have HF2 : Hid (e.vv = .slice av e.p.v.length cv) := f2
      clear hce hP hok he f1 f2 f3 f4 hcur
      by_cases hput : e.p.put = true
      · have HSA : Hid (e.p.says k = decide (e.p.k = k)) := by rw [Hid, Pc.says, if_pos hput]
        rw [hput] at c0
        go_wp2_with fail
        refine HCK.out.mono ?_
        rintro r w1 ⟨rfl, q1, rfl⟩
        have HD : Hid (Below wr.heap.size wr (wr.drewN q1)) := below_draws (Below.refl _ _) q1
        by_cases hk : e.p.k = k
        · have hzc : (cmpK e.p.k k == 0) = true := by rw [beq_iff_eq, cmpK_eq]; exact hk
          have HNX : Hid (ofP ((pcsOf F).take (n + 1)) k = ⟨m + 1, true, e.p.v⟩) := by
            rw [Hid, HST.out, ofStep, HSA.out, decide_eq_true hk, if_pos rfl, hput, Bool.or_true, if_pos rfl]
          clear hk
          go_wp2_with fail
          refine (HHA.out _ HD.out).mono ?_
          rintro r w2 ⟨rfl, hb2⟩
          have HB2 : Hid (Below wr.heap.size wr w2) := HD.out.trans hb2
          obtain ⟨d0, d1, d2, d3, d4, d5⟩ := HCE.out w2 HB2.out
          rw [hput] at d0
          clear hb2
          go_wp2
          exact ⟨⟨n + 1, m + 1, true, e.p.v, by omega, by go_num, by go_num, by omega, rfl, HNX.out, by rw [← HF2.out]; exact (HOK.out.here hBr HB2.out).v, HBW.out.trans (HB2.out.mono HBW.out.size)⟩, by simp [intOf]; omega⟩
        · have hzc : (cmpK e.p.k k == 0) = false := by rw [beq_eq_false_iff_ne]; exact fun h => hk (cmpK_eq.1 h)
          have HNX : Hid (ofP ((pcsOf F).take (n + 1)) k = ⟨m, q, y⟩) := by
            rw [Hid, HST.out, ofStep, HSA.out, decide_eq_false hk]; simp
          clear hk
          go_wp2_with fail
          refine (HHA.out _ HD.out).mono ?_
          rintro r w2 ⟨rfl, hb2⟩
          have HB2 : Hid (Below wr.heap.size wr w2) := HD.out.trans hb2
          obtain ⟨d0, d1, d2, d3, d4, d5⟩ := HCE.out w2 HB2.out
          rw [hput] at d0
          clear hb2
          go_wp2
          exact ⟨⟨n + 1, m, q, y, by omega, by go_num, rfl, by omega, rfl, HNX.out, HKY.out.here hBr HB2.out, HBW.out.trans (HB2.out.mono HBW.out.size)⟩, by simp [intOf]; omega⟩
      · have hput' : e.p.put = false := by simpa using hput
        have HSA : Hid (e.p.says k = Rg.has ⟨e.p.lo, e.p.hi, false⟩ k) := by rw [Hid, Pc.says, if_neg hput]; simp [Rg.has]
        rw [hput'] at c0
        go_wp2_with fail
        refine (HHA.out wr (Below.refl _ _)).mono ?_
        rintro r w2 ⟨rfl, hb2⟩
        have HB2 : Hid (Below wr.heap.size wr w2) := hb2
        obtain ⟨d0, d1, d2, d3, d4, d5⟩ := HCE.out w2 HB2.out
        rw [hput'] at d0
        clear hb2
        by_cases hh : Rg.has ⟨e.p.lo, e.p.hi, false⟩ k = true
        · have HNX : Hid (ofP ((pcsOf F).take (n + 1)) k = ⟨m + 1, q, y⟩) := by
            rw [Hid, HST.out, ofStep, HSA.out, if_pos hh, hput', Bool.or_false]; simp
          rw [hh]
          go_wp2
          exact ⟨⟨n + 1, m + 1, q, y, by omega, by go_num, by go_num, by omega, rfl, HNX.out, HKY.out.here hBr HB2.out, HBW.out.trans (HB2.out.mono HBW.out.size)⟩, by simp [intOf]; omega⟩
        · have hh' : Rg.has ⟨e.p.lo, e.p.hi, false⟩ k = false := by simpa using hh
          have HNX : Hid (ofP ((pcsOf F).take (n + 1)) k = ⟨m, q, y⟩) := by
            rw [Hid, HST.out, ofStep, HSA.out, if_neg hh]
          rw [hh']
          go_wp2
          exact ⟨⟨n + 1, m, q, y, by omega, by go_num, rfl, by omega, rfl, HNX.out, HKY.out.here hBr HB2.out, HBW.out.trans (HB2.out.mono HBW.out.size)⟩, by simp [intOf]; omega⟩
    · have hz : ¬ (n : Int) < (F.length : Int) := by omega
      have HE : Hid (ofP (pcsOf F) k = ⟨m, q, y⟩) := by
        have := HOF.out
        rw [List.take_of_length_le (by simp [pcsOf]; omega)] at this
        exact this
      go_wp2
      go_ret3
      exact ⟨_, by rw [HE.out]; rfl, by rw [HE.out]; exact HKY.out, HBW.out⟩
end Go.Proofs.Ytkjjgbaoicjbaaa
