/- The law DevArmed's walk. -/
import Derived.Test.YtphnajphgiinfaaUpTo
namespace Go.Proofs.Ytphnajphgiinfaa
open Go.RowKit Go.Maps Go.MuLone Go.Sort

theorem arm_mine {N k : Nat} {w : World} {b : Nat} {s : St} {a : Ab} (h : Mine N w b s a k) (hoff : a.off = false) (n how : Int) (dn : Bool) (hn : 0 ≤ n) (hh : how = 0 ∨ how = 1) :
    Calls Try.prog 20 #[.pointer (some ⟨b, 0, none⟩), .int .i64 n, .int .i64 how, .bool dn] w fun e w' => ∃ t, e = .returned (.int .i64 0) ∧ Mine N w' b t (a.armed n how dn) k ∧ Kept (fun k => k = b) w w' ∧ ∀ i, Own b t i → Own b s i := by
  obtain ⟨hd, rfl, hg, hown⟩ := h
  exact (arm_on 65536 w b s hd hoff n how dn hn hh).mono (fun e w' ⟨x1, x2, x3⟩ => ⟨_, x1, ⟨x2, rfl, ⟨hg.1, hg.2.1, hg.2.2⟩, fun i hi => hown i (own_eq rfl rfl rfl _ hi)⟩, x3, fun _ hi => own_eq rfl rfl rfl _ hi⟩)

set_option maxHeartbeats 4000000 in
set_option maxRecDepth 100000 in
theorem armed_walk (x0 x1 : Int) (w : World) (wx0 : (Lit.int .i64 x0).wf = true) (wx1 : (Lit.int .i64 x1).wf = true) (aS aM : Option Addr) (capS capM : Nat) (l m : List OpA) (hl : OpsAt w.heap.size w aS l) (hm : OpsAt w.heap.size w aM m) (nr hr : Int) (hnr : (Lit.int .i64 nr).wf = true) (hhr : (Lit.int .i64 hr).wf = true) (dn : Bool) :
    Calls Try.prog 5 #[.int .i64 x0, .int .i64 x1, .slice aS l.length capS, .int .i64 nr, .int .i64 hr, .bool dn, .slice aM m.length capM] w fun e w' => e = .returned (.bool true) ∧ Below w.heap.size w w' := by
  have HL : Hid (OpsAt w.heap.size w aS l) := hl
  have HM : Hid (OpsAt w.heap.size w aM m) := hm
  have HNR : Hid ((Lit.int .i64 nr).wf = true ∧ (Lit.int .i64 hr).wf = true) := ⟨hnr, hhr⟩
  have HX : Hid ((Lit.int .i64 x0).wf = true ∧ (Lit.int .i64 x1).wf = true) := ⟨wx0, wx1⟩
  clear hl hm hnr hhr wx0 wx1
  go_enter Try.func5, Try.ntmps5
  go_wp2_with fail
  refine (awake_any _).mono ?_
  rintro _ w1 ⟨rfl, hb1⟩
  have HB1 : Hid (Below w.heap.size w w1) := hb1
  clear hb1
  go_wp2_with fail
  refine (sized_any x0 x1 _ HX.out.1 HX.out.2).mono ?_
  rintro _ w2 ⟨rfl, hb2⟩
  have HB2 : Hid (Below w.heap.size w w2) := HB1.out.trans (hb2.mono HB1.out.size)
  have HS : Hid _ := size_cases x0
  have HBL : Hid _ := blocks_range x1
  clear hb2
  generalize sizeOfRaw x0 = S at *
  generalize blocksOfRaw x1 = B at *
  go_wp2_with fail
  refine (beyond_any _ _ _ _ S HS.out).mono ?_
  rintro _ _ ⟨rfl, rfl⟩
  by_cases hbl : 2147483647 / S < l.length
  · rw [decide_eq_true hbl]
    clear hbl
    go_wp2
    go_ret
    exact ⟨rfl, HB2.out⟩
  rw [decide_eq_false hbl]
  have hll : l.length ≤ 4194303 := size_len HS.out hbl
  clear hbl
  go_wp2_with fail
  refine (beyond_any _ _ _ _ S HS.out).mono ?_
  rintro _ _ ⟨rfl, rfl⟩
  by_cases hbm : 2147483647 / S < m.length
  · rw [decide_eq_true hbm]
    clear hbm
    go_wp2
    go_ret
    exact ⟨rfl, HB2.out⟩
  rw [decide_eq_false hbm]
  have hml : m.length ≤ 4194303 := size_len HS.out hbm
  clear hbm
  go_wp2_with fail
  refine (played_any S B _ HS.out HBL.out w.heap.size HB2.out.size aS capS l (HL.out.below HB2.out) hll).mono ?_
  rintro _ w3 ⟨d, sd, rfl, hm3, hb3⟩
  have HB3 : Hid (Below w.heap.size w w3) := HB2.out.trans (hb3.mono HB2.out.size)
  have HD3 : Hid (Mine w.heap.size w3 d sd ((Ab.new S B).run l) l.length) := hm3.low HB2.out.size
  clear hm3 hb3
  obtain ⟨P, hP⟩ : ∃ P, P = ((Ab.new S B).run l).lost := ⟨_, rfl⟩
  have HPQ : Hid (Quiet P) := by rw [hP]; exact ⟨rfl, rfl⟩
  have HPE : Hid (((Ab.new S B).run l).lost = P) := hP.symm
  clear hP
  go_wp2_with fail
  refine (lost_mine HD3.out HB3.out.size (by omega)).mono ?_
  rintro _ w4 ⟨sd4, rfl, hm4, hk4, ho4⟩
  rw [HPE.out] at hm4
  have HD4 : Hid (Mine w.heap.size w4 d sd4 P l.length) := hm4
  have HB4 : Hid (Below w.heap.size w w4) := HB3.out.trans (hk4.below HD3.out.own HB3.out.size)
  clear hm4 hk4 ho4
  go_wp2_with fail
  refine (copy_mine HD4.out HB4.out.size (by omega)).mono ?_
  rintro _ w5 ⟨c, sc, rfl, hmd5, hmc5, hnc, hk5⟩
  have H5 : Hid (Two w w5 c d sc sd4 P P l.length) := ⟨hmc5, hmd5, fun i hi hj => by have := hnc i hi; have := HD4.out.dev.own_lt hj; omega, HB4.out.trans (hk5.below (fun i hi => HD4.out.own i (.inl hi)) HB4.out.size)⟩
  clear hmd5 hmc5 hnc hk5
  go_wp2_with fail
  refine (pickB_any nr 1099511627776 _ HNR.out.1 (by omega) (by omega)).mono ?_
  rintro _ _ ⟨rfl, rfl⟩
  obtain ⟨q, hq⟩ : ∃ q : Nat, pickOf nr 1099511627776 = (q : Int) := ⟨(pickOf nr 1099511627776).toNat, by have := (pickOf_range nr 1099511627776 (by omega)).1; omega⟩
  have hq2 : q < 1099511627776 := by have := (pickOf_range nr 1099511627776 (by omega)).2; omega
  rw [hq]
  clear hq
  go_wp2_with fail
  refine (pickB_any hr 2 _ HNR.out.2 (by omega) (by omega)).mono ?_
  rintro _ _ ⟨rfl, rfl⟩
  obtain ⟨how, hhow⟩ : ∃ how : Int, pickOf hr 2 = how := ⟨_, rfl⟩
  have hh : how = 0 ∨ how = 1 := by have := pickOf_range hr 2 (by omega); omega
  rw [hhow]
  clear hhow
  have HH : Hid (how = 0 ∨ how = 1) := hh
  clear hh
  go_wp2_with fail
  refine (arm_mine H5.out.md HPQ.out.off (1 + (q : Int)) how dn (by omega) HH.out).mono ?_
  rintro _ w6 ⟨sd6, rfl, hm6, hk6, ho6⟩
  have H6 : Hid (Two w w6 c d sc sd6 P (P.armed (1 + (q : Int)) how dn) l.length) := H5.out.onD hm6 (fun i hi => .inl hi) hk6 (fun i hi => .inl (ho6 i hi))
  clear hm6 hk6 ho6
  go_wp2
  go_loopw [18, 19] (fun ch i wr => ∃ (k cg : Nat) (tc td : St) (Q : Ab), k ≤ m.length ∧ ch = .int .i64 cg ∧ i = .int .i64 k ∧ cg ≤ q ∧ cg ≤ k ∧ Quiet Q ∧ Two w wr c d tc td Q (Q.armed (1 + (q : Int) - (cg : Int)) how dn) (l.length + 2 * k)) (fun _ i _ => m.length - (intOf i).toNat)
  case atStart => exact ⟨0, 0, sc, sd6, P, Nat.zero_le _, rfl, rfl, Nat.zero_le _, Nat.zero_le _, HPQ.out, by simpa using H6.out⟩
  case round =>
    obtain ⟨k, cg, tc, td, Q, hk, rfl, rfl, hcq, hck, hQ, htwo⟩ := hrel
    have HT : Hid (Two w wr c d tc td Q (Q.armed (1 + (q : Int) - (cg : Int)) how dn) (l.length + 2 * k)) := htwo
    have HQ : Hid (Quiet Q) := hQ
    clear htwo hQ
    by_cases hlt : k < m.length
    · have hkz : (k : Int) < (m.length : Int) := by omega
      obtain ⟨o, ho⟩ : ∃ o, m[k]? = some o := ⟨m[k], List.getElem?_eq_getElem hlt⟩
      obtain ⟨hA, g, off, on, aT, capT, aF, capF, rfl, hg, c0, c1, c2, c3, c4, c5, c6, c7, hT, hF⟩ := (HM.out k o ho).below HT.out.old
      have HTT : Hid (BytesIn w.heap.size wr aT o.T) := hT
      have HF : Hid (FatesIn w.heap.size wr aF o.fates) := hF
      have HA : Hid ((Lit.int .i64 o.A).wf = true) := hA
      clear ho hT hF hA
      obtain ⟨kd, hkd⟩ : ∃ kd, kd = o.kind := ⟨_, rfl⟩
      rw [← hkd] at c0
      by_cases hkind : kd = 3 ∨ kd = 4 ∨ kd = 8
      · rcases hkind with h3 | h4 | h8
        · subst h3
          obtain ⟨W1, hW1⟩ : ∃ W1, W1 = wr.alloc (.cells #[.int .i64 3, .int .i64 on, .int .i64 o.A, .int .i64 o.B, .int .u8 (o.v.toNat : Int), .slice aT o.T.length capT, .slice aF o.fates.length capF, .bool o.dn] 53) := ⟨_, rfl⟩
          have hbW : Below wr.heap.size wr W1 := by rw [hW1]; exact (Below.refl _ _).alloc (Nat.le_refl _) _
          have HROW1 : Hid (W1.heap[wr.heap.size]? = some (.cells #[.int .i64 3, .int .i64 on, .int .i64 o.A, .int .i64 o.B, .int .u8 (o.v.toNat : Int), .slice aT o.T.length capT, .slice aF o.fates.length capF, .bool o.dn] 53 (0, 0))) := by rw [hW1]; exact (MapKept.heap_alloc wr _).1
          have HSZ1 : Hid (W1.heap.size = wr.heap.size + 1) := by show _ = _; rw [hW1]; simp
          have H1 : Hid (Two w W1 c d tc td Q (Q.armed (1 + (q : Int) - (cg : Int)) how dn) (l.length + 2 * k)) := HT.out.below hbW
          have HBW : Hid (Below w.heap.size wr W1) := hbW.mono HT.out.old.size
          have HKD : Hid (3 = o.kind) := hkd
          have HCL : Hid (∀ i, Own c tc i → i < wr.heap.size) := fun i hi => HT.out.mc.dev.own_lt hi
          have HDL : Hid (∀ i, Own d td i → i < wr.heap.size) := fun i hi => HT.out.md.dev.own_lt hi
          clear hbW hkd
          go_wp2_with fail
          rw [← hW1]
          clear hW1 c0 c1 c2 c3 c4 c5 c6 c7
          refine (pend_mine H1.out.mc).mono ?_
          rintro _ w7 ⟨ap, cp, rfl, hp, hm7, hk7⟩
          have H7 : Hid (Two w w7 c d tc td Q (Q.armed (1 + (q : Int) - (cg : Int)) how dn) (l.length + 2 * k)) := H1.out.onC hm7 (fun i hi => .inl hi) hk7 (fun i hi => .inl hi)
          have HROW7 : Hid (w7.heap[wr.heap.size]? = some (.cells #[.int .i64 3, .int .i64 on, .int .i64 o.A, .int .i64 o.B, .int .u8 (o.v.toNat : Int), .slice aT o.T.length capT, .slice aF o.fates.length capF, .bool o.dn] 53 (0, 0))) := (hk7.block wr.heap.size (by rw [HSZ1.out]; omega) (fun e => by have := HCL.out c (.inl rfl); omega)).trans HROW1.out
          have HSZ7 : Hid (wr.heap.size < w7.heap.size) := by have h1 := hk7.size; rw [HSZ1.out] at h1; exact h1
          have HB7 : Hid (Below w.heap.size wr w7) := HBW.out.trans (hk7.below (fun i hi => H1.out.mc.own i (.inl hi)) H1.out.old.size)
          have e0 := hdr_cell HROW7.out 0
          have e1 := hdr_cell HROW7.out 1
          have e2 := hdr_cell HROW7.out 2
          have e3 := hdr_cell HROW7.out 3
          have e4 := hdr_cell HROW7.out 4
          have e5 := hdr_cell HROW7.out 5
          have e6 := hdr_cell HROW7.out 6
          have e7 := hdr_cell HROW7.out 7
          clear hp hm7 hk7
          go_wp2_with fail
          have hdid := did_any w7 c tc (l.length + 2 * k) H7.out.mc.dev (by rw [H7.out.mc.ab]; exact H7.out.mc.good) (by omega) w.heap.size H7.out.old.size H7.out.mc.own o on aT aF capT capF HA.out (bytesIn_below HTT.out HB7.out) (fatesIn_below HF.out HB7.out)
          rw [← HKD.out] at hdid
          refine hdid.mono ?_
          clear hdid
          intro e w8 hd8
          obtain ⟨tc2, hm8, rfl, hk8, ho8⟩ := mine_step H7.out.mc H7.out.old.size hd8
          have H8 : Hid (Two w w8 c d tc2 td (Q.step o).1 (Q.armed (1 + (q : Int) - (cg : Int)) how dn) (l.length + 2 * k + 1)) := (H7.out.more (Nat.le_succ _)).onC hm8 (fun _ x => x) hk8 ho8
          have HROW8 : Hid (w8.heap[wr.heap.size]? = some (.cells #[.int .i64 3, .int .i64 on, .int .i64 o.A, .int .i64 o.B, .int .u8 (o.v.toNat : Int), .slice aT o.T.length capT, .slice aF o.fates.length capF, .bool o.dn] 53 (0, 0))) := (hk8.block wr.heap.size HSZ7.out (fun e => by have := HCL.out _ e; omega)).trans HROW7.out
          have HSZ8 : Hid (wr.heap.size < w8.heap.size) := Nat.lt_of_lt_of_le HSZ7.out hk8.size
          have HB8 : Hid (Below w.heap.size wr w8) := HB7.out.trans (hk8.below H7.out.mc.own H7.out.old.size)
          clear hd8 hm8 hk8 ho8 e0 e1 e2 e3 e4 e5 e6 e7
          have e0 := hdr_cell HROW8.out 0
          have e1 := hdr_cell HROW8.out 1
          have e2 := hdr_cell HROW8.out 2
          have e3 := hdr_cell HROW8.out 3
          have e4 := hdr_cell HROW8.out 4
          have e5 := hdr_cell HROW8.out 5
          have e6 := hdr_cell HROW8.out 6
          have e7 := hdr_cell HROW8.out 7
          go_wp2_with fail
          have hdid := did_any w8 d td (l.length + 2 * k + 1) H8.out.md.dev (by rw [H8.out.md.ab]; exact H8.out.md.good) (by omega) w.heap.size H8.out.old.size H8.out.md.own o on aT aF capT capF HA.out (bytesIn_below HTT.out HB8.out) (fatesIn_below HF.out HB8.out)
          rw [← HKD.out] at hdid
          refine hdid.mono ?_
          clear hdid
          intro e w9 hd9
          obtain ⟨td2, hm9, rfl, hk9, ho9⟩ := mine_step H8.out.md H8.out.old.size hd9
          have H9 : Hid (Two w w9 c d tc2 td2 (Q.step o).1 ((Q.armed (1 + (q : Int) - (cg : Int)) how dn).step o).1 (l.length + 2 * (k + 1))) := (H8.out.more (Nat.le_succ _)).onD hm9 (fun _ x => x) hk9 ho9
          have HROW9 : Hid (w9.heap[wr.heap.size]? = some (.cells #[.int .i64 3, .int .i64 on, .int .i64 o.A, .int .i64 o.B, .int .u8 (o.v.toNat : Int), .slice aT o.T.length capT, .slice aF o.fates.length capF, .bool o.dn] 53 (0, 0))) := (hk9.block wr.heap.size HSZ8.out (fun e => by have := HDL.out _ e; omega)).trans HROW8.out
          have HSZ9 : Hid (wr.heap.size < w9.heap.size) := Nat.lt_of_lt_of_le HSZ8.out hk9.size
          have HB9 : Hid (Below w.heap.size wr w9) := HB8.out.trans (hk9.below H8.out.md.own H8.out.old.size)
          clear hd9 hm9 hk9 ho9 e0 e1 e2 e3 e4 e5 e6 e7
          have e0 := hdr_cell HROW9.out 0
          have e1 := hdr_cell HROW9.out 1
          have e2 := hdr_cell HROW9.out 2
          have e3 := hdr_cell HROW9.out 3
          have e4 := hdr_cell HROW9.out 4
          have e5 := hdr_cell HROW9.out 5
          have e6 := hdr_cell HROW9.out 6
          have e7 := hdr_cell HROW9.out 7
          rcases step_two Q HQ.out o (by have := HKD.out; omega) with ⟨R, e, hR, hs, ha, hne⟩ | ⟨R, hR, hs, ha, hch⟩
          · have HRQ : Hid (Quiet R) := hR
            have H9' : Hid (Two w w9 c d tc2 td2 R (R.armed (1 + (q : Int) - (cg : Int)) how dn) (l.length + 2 * (k + 1))) := by
              have := H9.out
              rw [hs, ha] at this
              exact this
            rw [hs, ha]
            simp only
            clear H9 hs ha hR
            have hez : (e == 0) = false := by rw [beq_eq_false_iff_ne]; rcases hne with h | h; exact h; have := HKD.out; omega
            clear hne
            have hcz : (cg : Int) < 1 + (q : Int) := by omega
            have hcond := hcz
            go_wp2
            exact ⟨⟨k + 1, cg, tc2, td2, R, by omega, rfl, by go_num, hcq, by omega, HRQ.out, H9'.out⟩, by simp [intOf]; omega⟩
          · have HRQ : Hid (Quiet R) := hR
            have HCH : Hid (Changes Q R o) := hch
            have hcgb : (cg : Int) ≤ 4194303 := by omega
            by_cases hfire : cg < q
            · have hae := armed_ends Q R (1 + (q : Int) - (cg : Int)) how dn (by omega) (by omega)
              have H9' : Hid (Two w w9 c d tc2 td2 R (R.armed (1 + (q : Int) - ((cg + 1 : Nat) : Int)) how dn) (l.length + 2 * (k + 1))) := by
                have := H9.out
                rw [hs, ha, hae] at this
                have e1 : 1 + (q : Int) - (cg : Int) - 1 = 1 + (q : Int) - ((cg + 1 : Nat) : Int) := by omega
                rw [e1] at this
                exact this
              rw [hs, ha, hae]
              simp only
              clear H9 hs ha hR hch hae
              have hcz : (cg : Int) + 1 < 1 + (q : Int) := by omega
              go_wp2
              exact ⟨⟨k + 1, cg + 1, tc2, td2, R, by omega, by go_num, by go_num, by omega, by omega, HRQ.out, H9'.out⟩, by simp [intOf]; omega⟩
            · obtain rfl : cg = q := by omega
              have e1 : 1 + (cg : Int) - (cg : Int) = 1 := by omega
              rw [e1] at H9 ⊢
              have hfi := armed_fires Q R how dn
              obtain ⟨D, hD⟩ : ∃ D, D = (if dn then R.armed 1 how dn else Q.armed 1 how dn).fired := ⟨_, rfl⟩
              have H9' : Hid (Two w w9 c d tc2 td2 R D (l.length + 2 * (k + 1))) := by
                have := H9.out
                rw [hs, ha, hfi, ← hD] at this
                exact this
              have HDE : Hid (D = (if dn then R.armed 1 how dn else Q.armed 1 how dn).fired) := hD
              rw [hs, ha, hfi]
              simp only
              clear H9 hs ha hR hch hfi hD e1 hfire
              have hcz : ¬ ((cg : Int) + 1 < 1 + (cg : Int)) := by omega
              have hkl : Q.keys.length ≤ 65536 := H7.out.mc.keys_len
              rcases HH.out with rfl | rfl
              · have HOD : Hid (td2.off = true) := by
                  show _ = _
                  rw [show td2.off = D.off from congrArg Ab.off H9'.out.md.ab, HDE.out]
                  cases dn <;> rfl
                go_wp2_with fail
                refine (off_any 65536 _ d td2 H9'.out.md.dev).mono ?_
                rintro _ w10 ⟨rfl, hd10, hk10⟩
                rw [HOD.out]
                have H10 : Hid (Two w w10 c d tc2 td2 R D (l.length + 2 * (k + 1))) := H9'.out.onD ⟨hd10, H9'.out.md.ab, H9'.out.md.good, H9'.out.md.own⟩ (fun i hi => .inl hi) hk10 (fun i hi => .inl hi)
                have HROW10 : Hid (w10.heap[wr.heap.size]? = some (.cells #[.int .i64 3, .int .i64 on, .int .i64 o.A, .int .i64 o.B, .int .u8 (o.v.toNat : Int), .slice aT o.T.length capT, .slice aF o.fates.length capF, .bool o.dn] 53 (0, 0))) := (hk10.block wr.heap.size HSZ9.out (fun e => by have := HDL.out d (.inl rfl); omega)).trans HROW9.out
                clear hd10 hk10 e0 e1 e2 e3 e4 e5 e6 e7
                have e0 := hdr_cell HROW10.out 0
                have e1 := hdr_cell HROW10.out 1
                have e2 := hdr_cell HROW10.out 2
                have e3 := hdr_cell HROW10.out 3
                have e4 := hdr_cell HROW10.out 4
                have e5 := hdr_cell HROW10.out 5
                have e6 := hdr_cell HROW10.out 6
                have e7 := hdr_cell HROW10.out 7
                go_wp2_with fail
                obtain ⟨hr1, hr2⟩ : inRange o.A Q.blocks = true ∧ R = Q.wrote o.A (madeOf Q.size o.v o.T) := by
                  rcases HCH.out with ⟨_, h1, h2⟩ | ⟨h, _⟩
                  · exact ⟨h1, h2⟩
                  · have := HKD.out; omega
                have HWR : Hid (R.waits o.A = Q.waits o.A ++ [madeOf Q.size o.v o.T]) := by
                  show _ = _
                  rw [hr2]
                  show (if o.A = o.A then _ else _) = _
                  rw [if_pos rfl]
                have HIR : Hid (inRange o.A R.blocks = true) := by rw [hr2]; exact hr1
                clear hr1 hr2
                refine (upTo_write w w10 c d tc2 td2 R D (l.length + 2 * (k + 1)) H10.out (by omega) dn _ on o.A o.B _ HA.out (by rw [HDE.out, HWR.out]; cases dn with
                  | true => show (R.waits o.A).length = _; rw [HWR.out]; simp
                  | false => show (Q.waits o.A).length = _; simp) (by rw [HWR.out]; simp) HRQ.out.off HIR.out (fun _ hdn => by
                    subst hdn
                    rw [HDE.out]
                    refine ⟨HIR.out, rfl, ?_⟩
                    unfold Ab.shows
                    rw [HWR.out]
                    simp) aT aF _ capT _ capF o.dn).mono ?_
                rintro _ w11 ⟨rfl, hb11⟩
                have HB11 : Hid (Below w.heap.size w w11) := hb11
                clear hb11
                go_wp2
                go_ret
                exact ⟨rfl, HB11.out⟩
              · have HOD : Hid (td2.off = false) := by
                  show _ = _
                  rw [show td2.off = D.off from congrArg Ab.off H9'.out.md.ab, HDE.out]
                  cases dn
                  · exact HQ.out.off
                  · exact HRQ.out.off
                go_wp2_with fail
                refine (off_any 65536 _ d td2 H9'.out.md.dev).mono ?_
                rintro _ w10 ⟨rfl, hd10, hk10⟩
                rw [HOD.out]
                have H10 : Hid (Two w w10 c d tc2 td2 R D (l.length + 2 * (k + 1))) := H9'.out.onD ⟨hd10, H9'.out.md.ab, H9'.out.md.good, H9'.out.md.own⟩ (fun i hi => .inl hi) hk10 (fun i hi => .inl hi)
                have HROW10 : Hid (w10.heap[wr.heap.size]? = some (.cells #[.int .i64 3, .int .i64 on, .int .i64 o.A, .int .i64 o.B, .int .u8 (o.v.toNat : Int), .slice aT o.T.length capT, .slice aF o.fates.length capF, .bool o.dn] 53 (0, 0))) := (hk10.block wr.heap.size HSZ9.out (fun e => by have := HDL.out d (.inl rfl); omega)).trans HROW9.out
                clear hd10 hk10 e0 e1 e2 e3 e4 e5 e6 e7
                have e0 := hdr_cell HROW10.out 0
                have e1 := hdr_cell HROW10.out 1
                have e2 := hdr_cell HROW10.out 2
                have e3 := hdr_cell HROW10.out 3
                have e4 := hdr_cell HROW10.out 4
                have e5 := hdr_cell HROW10.out 5
                have e6 := hdr_cell HROW10.out 6
                have e7 := hdr_cell HROW10.out 7
                go_wp2_with fail
                obtain ⟨hr1, hr2⟩ : inRange o.A Q.blocks = true ∧ R = Q.wrote o.A (madeOf Q.size o.v o.T) := by
                  rcases HCH.out with ⟨_, h1, h2⟩ | ⟨h, _⟩
                  · exact ⟨h1, h2⟩
                  · have := HKD.out; omega
                have HWR : Hid (R.waits o.A = Q.waits o.A ++ [madeOf Q.size o.v o.T]) := by
                  show _ = _
                  rw [hr2]
                  show (if o.A = o.A then _ else _) = _
                  rw [if_pos rfl]
                have HIR : Hid (inRange o.A R.blocks = true) := by rw [hr2]; exact hr1
                clear hr1 hr2
                refine (upTo_write w w10 c d tc2 td2 R D (l.length + 2 * (k + 1)) H10.out (by omega) dn _ on o.A o.B _ HA.out (by rw [HDE.out, HWR.out]; cases dn with
                  | true => show (R.waits o.A).length = _; rw [HWR.out]; simp
                  | false => show (Q.waits o.A).length = _; simp) (by rw [HWR.out]; simp) HRQ.out.off HIR.out (fun _ hdn => by
                    subst hdn
                    rw [HDE.out]
                    refine ⟨HIR.out, rfl, ?_⟩
                    unfold Ab.shows
                    rw [HWR.out]
                    simp) aT aF _ capT _ capF o.dn).mono ?_
                rintro _ w11 ⟨rfl, hb11⟩
                have HB11 : Hid (Below w.heap.size w w11) := hb11
                clear hb11
                go_wp2
                go_ret
                exact ⟨rfl, HB11.out⟩
        · subst h4
          obtain ⟨W1, hW1⟩ : ∃ W1, W1 = wr.alloc (.cells #[.int .i64 4, .int .i64 on, .int .i64 o.A, .int .i64 o.B, .int .u8 (o.v.toNat : Int), .slice aT o.T.length capT, .slice aF o.fates.length capF, .bool o.dn] 53) := ⟨_, rfl⟩
          have hbW : Below wr.heap.size wr W1 := by rw [hW1]; exact (Below.refl _ _).alloc (Nat.le_refl _) _
          have HROW1 : Hid (W1.heap[wr.heap.size]? = some (.cells #[.int .i64 4, .int .i64 on, .int .i64 o.A, .int .i64 o.B, .int .u8 (o.v.toNat : Int), .slice aT o.T.length capT, .slice aF o.fates.length capF, .bool o.dn] 53 (0, 0))) := by rw [hW1]; exact (MapKept.heap_alloc wr _).1
          have HSZ1 : Hid (W1.heap.size = wr.heap.size + 1) := by show _ = _; rw [hW1]; simp
          have H1 : Hid (Two w W1 c d tc td Q (Q.armed (1 + (q : Int) - (cg : Int)) how dn) (l.length + 2 * k)) := HT.out.below hbW
          have HBW : Hid (Below w.heap.size wr W1) := hbW.mono HT.out.old.size
          have HKD : Hid (4 = o.kind) := hkd
          have HCL : Hid (∀ i, Own c tc i → i < wr.heap.size) := fun i hi => HT.out.mc.dev.own_lt hi
          have HDL : Hid (∀ i, Own d td i → i < wr.heap.size) := fun i hi => HT.out.md.dev.own_lt hi
          clear hbW hkd
          go_wp2_with fail
          rw [← hW1]
          clear hW1 c0 c1 c2 c3 c4 c5 c6 c7
          refine (pend_mine H1.out.mc).mono ?_
          rintro _ w7 ⟨ap, cp, rfl, hp, hm7, hk7⟩
          have H7 : Hid (Two w w7 c d tc td Q (Q.armed (1 + (q : Int) - (cg : Int)) how dn) (l.length + 2 * k)) := H1.out.onC hm7 (fun i hi => .inl hi) hk7 (fun i hi => .inl hi)
          have HROW7 : Hid (w7.heap[wr.heap.size]? = some (.cells #[.int .i64 4, .int .i64 on, .int .i64 o.A, .int .i64 o.B, .int .u8 (o.v.toNat : Int), .slice aT o.T.length capT, .slice aF o.fates.length capF, .bool o.dn] 53 (0, 0))) := (hk7.block wr.heap.size (by rw [HSZ1.out]; omega) (fun e => by have := HCL.out c (.inl rfl); omega)).trans HROW1.out
          have HSZ7 : Hid (wr.heap.size < w7.heap.size) := by have h1 := hk7.size; rw [HSZ1.out] at h1; exact h1
          have HB7 : Hid (Below w.heap.size wr w7) := HBW.out.trans (hk7.below (fun i hi => H1.out.mc.own i (.inl hi)) H1.out.old.size)
          have e0 := hdr_cell HROW7.out 0
          have e1 := hdr_cell HROW7.out 1
          have e2 := hdr_cell HROW7.out 2
          have e3 := hdr_cell HROW7.out 3
          have e4 := hdr_cell HROW7.out 4
          have e5 := hdr_cell HROW7.out 5
          have e6 := hdr_cell HROW7.out 6
          have e7 := hdr_cell HROW7.out 7
          clear hp hm7 hk7
          go_wp2_with fail
          have hdid := did_any w7 c tc (l.length + 2 * k) H7.out.mc.dev (by rw [H7.out.mc.ab]; exact H7.out.mc.good) (by omega) w.heap.size H7.out.old.size H7.out.mc.own o on aT aF capT capF HA.out (bytesIn_below HTT.out HB7.out) (fatesIn_below HF.out HB7.out)
          rw [← HKD.out] at hdid
          refine hdid.mono ?_
          clear hdid
          intro e w8 hd8
          obtain ⟨tc2, hm8, rfl, hk8, ho8⟩ := mine_step H7.out.mc H7.out.old.size hd8
          have H8 : Hid (Two w w8 c d tc2 td (Q.step o).1 (Q.armed (1 + (q : Int) - (cg : Int)) how dn) (l.length + 2 * k + 1)) := (H7.out.more (Nat.le_succ _)).onC hm8 (fun _ x => x) hk8 ho8
          have HROW8 : Hid (w8.heap[wr.heap.size]? = some (.cells #[.int .i64 4, .int .i64 on, .int .i64 o.A, .int .i64 o.B, .int .u8 (o.v.toNat : Int), .slice aT o.T.length capT, .slice aF o.fates.length capF, .bool o.dn] 53 (0, 0))) := (hk8.block wr.heap.size HSZ7.out (fun e => by have := HCL.out _ e; omega)).trans HROW7.out
          have HSZ8 : Hid (wr.heap.size < w8.heap.size) := Nat.lt_of_lt_of_le HSZ7.out hk8.size
          have HB8 : Hid (Below w.heap.size wr w8) := HB7.out.trans (hk8.below H7.out.mc.own H7.out.old.size)
          clear hd8 hm8 hk8 ho8 e0 e1 e2 e3 e4 e5 e6 e7
          have e0 := hdr_cell HROW8.out 0
          have e1 := hdr_cell HROW8.out 1
          have e2 := hdr_cell HROW8.out 2
          have e3 := hdr_cell HROW8.out 3
          have e4 := hdr_cell HROW8.out 4
          have e5 := hdr_cell HROW8.out 5
          have e6 := hdr_cell HROW8.out 6
          have e7 := hdr_cell HROW8.out 7
          go_wp2_with fail
          have hdid := did_any w8 d td (l.length + 2 * k + 1) H8.out.md.dev (by rw [H8.out.md.ab]; exact H8.out.md.good) (by omega) w.heap.size H8.out.old.size H8.out.md.own o on aT aF capT capF HA.out (bytesIn_below HTT.out HB8.out) (fatesIn_below HF.out HB8.out)
          rw [← HKD.out] at hdid
          refine hdid.mono ?_
          clear hdid
          intro e w9 hd9
          obtain ⟨td2, hm9, rfl, hk9, ho9⟩ := mine_step H8.out.md H8.out.old.size hd9
          have H9 : Hid (Two w w9 c d tc2 td2 (Q.step o).1 ((Q.armed (1 + (q : Int) - (cg : Int)) how dn).step o).1 (l.length + 2 * (k + 1))) := (H8.out.more (Nat.le_succ _)).onD hm9 (fun _ x => x) hk9 ho9
          have HROW9 : Hid (w9.heap[wr.heap.size]? = some (.cells #[.int .i64 4, .int .i64 on, .int .i64 o.A, .int .i64 o.B, .int .u8 (o.v.toNat : Int), .slice aT o.T.length capT, .slice aF o.fates.length capF, .bool o.dn] 53 (0, 0))) := (hk9.block wr.heap.size HSZ8.out (fun e => by have := HDL.out _ e; omega)).trans HROW8.out
          have HSZ9 : Hid (wr.heap.size < w9.heap.size) := Nat.lt_of_lt_of_le HSZ8.out hk9.size
          have HB9 : Hid (Below w.heap.size wr w9) := HB8.out.trans (hk9.below H8.out.md.own H8.out.old.size)
          clear hd9 hm9 hk9 ho9 e0 e1 e2 e3 e4 e5 e6 e7
          have e0 := hdr_cell HROW9.out 0
          have e1 := hdr_cell HROW9.out 1
          have e2 := hdr_cell HROW9.out 2
          have e3 := hdr_cell HROW9.out 3
          have e4 := hdr_cell HROW9.out 4
          have e5 := hdr_cell HROW9.out 5
          have e6 := hdr_cell HROW9.out 6
          have e7 := hdr_cell HROW9.out 7
          rcases step_two Q HQ.out o (by have := HKD.out; omega) with ⟨R, e, hR, hs, ha, hne⟩ | ⟨R, hR, hs, ha, hch⟩
          · have HRQ : Hid (Quiet R) := hR
            have H9' : Hid (Two w w9 c d tc2 td2 R (R.armed (1 + (q : Int) - (cg : Int)) how dn) (l.length + 2 * (k + 1))) := by
              have := H9.out
              rw [hs, ha] at this
              exact this
            rw [hs, ha]
            simp only
            clear H9 hs ha hR
            have hez : (e == 0) = false := by rw [beq_eq_false_iff_ne]; rcases hne with h | h; exact h; have := HKD.out; omega
            clear hne
            have hcz : (cg : Int) < 1 + (q : Int) := by omega
            have hcond := hcz
            go_wp2
            exact ⟨⟨k + 1, cg, tc2, td2, R, by omega, rfl, by go_num, hcq, by omega, HRQ.out, H9'.out⟩, by simp [intOf]; omega⟩
          · have HRQ : Hid (Quiet R) := hR
            have HCH : Hid (Changes Q R o) := hch
            have hcgb : (cg : Int) ≤ 4194303 := by omega
            by_cases hfire : cg < q
            · have hae := armed_ends Q R (1 + (q : Int) - (cg : Int)) how dn (by omega) (by omega)
              have H9' : Hid (Two w w9 c d tc2 td2 R (R.armed (1 + (q : Int) - ((cg + 1 : Nat) : Int)) how dn) (l.length + 2 * (k + 1))) := by
                have := H9.out
                rw [hs, ha, hae] at this
                have e1 : 1 + (q : Int) - (cg : Int) - 1 = 1 + (q : Int) - ((cg + 1 : Nat) : Int) := by omega
                rw [e1] at this
                exact this
              rw [hs, ha, hae]
              simp only
              clear H9 hs ha hR hch hae
              have hcz : (cg : Int) + 1 < 1 + (q : Int) := by omega
              go_wp2
              exact ⟨⟨k + 1, cg + 1, tc2, td2, R, by omega, by go_num, by go_num, by omega, by omega, HRQ.out, H9'.out⟩, by simp [intOf]; omega⟩
            · obtain rfl : cg = q := by omega
              have e1 : 1 + (cg : Int) - (cg : Int) = 1 := by omega
              rw [e1] at H9 ⊢
              have hfi := armed_fires Q R how dn
              obtain ⟨D, hD⟩ : ∃ D, D = (if dn then R.armed 1 how dn else Q.armed 1 how dn).fired := ⟨_, rfl⟩
              have H9' : Hid (Two w w9 c d tc2 td2 R D (l.length + 2 * (k + 1))) := by
                have := H9.out
                rw [hs, ha, hfi, ← hD] at this
                exact this
              have HDE : Hid (D = (if dn then R.armed 1 how dn else Q.armed 1 how dn).fired) := hD
              rw [hs, ha, hfi]
              simp only
              clear H9 hs ha hR hch hfi hD e1 hfire
              have hcz : ¬ ((cg : Int) + 1 < 1 + (cg : Int)) := by omega
              have hkl : Q.keys.length ≤ 65536 := H7.out.mc.keys_len
              rcases HH.out with rfl | rfl
              · have HOD : Hid (td2.off = true) := by
                  show _ = _
                  rw [show td2.off = D.off from congrArg Ab.off H9'.out.md.ab, HDE.out]
                  cases dn <;> rfl
                go_wp2_with fail
                refine (off_any 65536 _ d td2 H9'.out.md.dev).mono ?_
                rintro _ w10 ⟨rfl, hd10, hk10⟩
                rw [HOD.out]
                have H10 : Hid (Two w w10 c d tc2 td2 R D (l.length + 2 * (k + 1))) := H9'.out.onD ⟨hd10, H9'.out.md.ab, H9'.out.md.good, H9'.out.md.own⟩ (fun i hi => .inl hi) hk10 (fun i hi => .inl hi)
                have HROW10 : Hid (w10.heap[wr.heap.size]? = some (.cells #[.int .i64 4, .int .i64 on, .int .i64 o.A, .int .i64 o.B, .int .u8 (o.v.toNat : Int), .slice aT o.T.length capT, .slice aF o.fates.length capF, .bool o.dn] 53 (0, 0))) := (hk10.block wr.heap.size HSZ9.out (fun e => by have := HDL.out d (.inl rfl); omega)).trans HROW9.out
                clear hd10 hk10 e0 e1 e2 e3 e4 e5 e6 e7
                have e0 := hdr_cell HROW10.out 0
                have e1 := hdr_cell HROW10.out 1
                have e2 := hdr_cell HROW10.out 2
                have e3 := hdr_cell HROW10.out 3
                have e4 := hdr_cell HROW10.out 4
                have e5 := hdr_cell HROW10.out 5
                have e6 := hdr_cell HROW10.out 6
                have e7 := hdr_cell HROW10.out 7
                go_wp2_with fail
                have hr2 : R = Q.settled := by
                  rcases HCH.out with ⟨h, _⟩ | ⟨_, h⟩
                  · have := HKD.out; omega
                  · exact h
                have HWR : Hid (R.waits = fun _ => []) := by show _ = _; rw [hr2]; rfl
                clear hr2
                refine (upTo_barrier w w10 c d tc2 td2 R D (l.length + 2 * (k + 1)) H10.out dn Q.keys.length HWR.out (by rw [HDE.out]; cases dn with
                  | true => exact HWR.out
                  | false => exact congrArg List.length (keys_waits rfl)) on o.A o.B _ aT aF _ capT _ capF o.dn).mono ?_
                rintro _ w11 ⟨rfl, hb11⟩
                have HB11 : Hid (Below w.heap.size w w11) := hb11
                clear hb11
                go_wp2
                go_ret
                exact ⟨rfl, HB11.out⟩
              · have HOD : Hid (td2.off = false) := by
                  show _ = _
                  rw [show td2.off = D.off from congrArg Ab.off H9'.out.md.ab, HDE.out]
                  cases dn
                  · exact HQ.out.off
                  · exact HRQ.out.off
                go_wp2_with fail
                refine (off_any 65536 _ d td2 H9'.out.md.dev).mono ?_
                rintro _ w10 ⟨rfl, hd10, hk10⟩
                rw [HOD.out]
                have H10 : Hid (Two w w10 c d tc2 td2 R D (l.length + 2 * (k + 1))) := H9'.out.onD ⟨hd10, H9'.out.md.ab, H9'.out.md.good, H9'.out.md.own⟩ (fun i hi => .inl hi) hk10 (fun i hi => .inl hi)
                have HROW10 : Hid (w10.heap[wr.heap.size]? = some (.cells #[.int .i64 4, .int .i64 on, .int .i64 o.A, .int .i64 o.B, .int .u8 (o.v.toNat : Int), .slice aT o.T.length capT, .slice aF o.fates.length capF, .bool o.dn] 53 (0, 0))) := (hk10.block wr.heap.size HSZ9.out (fun e => by have := HDL.out d (.inl rfl); omega)).trans HROW9.out
                clear hd10 hk10 e0 e1 e2 e3 e4 e5 e6 e7
                have e0 := hdr_cell HROW10.out 0
                have e1 := hdr_cell HROW10.out 1
                have e2 := hdr_cell HROW10.out 2
                have e3 := hdr_cell HROW10.out 3
                have e4 := hdr_cell HROW10.out 4
                have e5 := hdr_cell HROW10.out 5
                have e6 := hdr_cell HROW10.out 6
                have e7 := hdr_cell HROW10.out 7
                go_wp2_with fail
                have hr2 : R = Q.settled := by
                  rcases HCH.out with ⟨h, _⟩ | ⟨_, h⟩
                  · have := HKD.out; omega
                  · exact h
                have HWR : Hid (R.waits = fun _ => []) := by show _ = _; rw [hr2]; rfl
                clear hr2
                refine (upTo_barrier w w10 c d tc2 td2 R D (l.length + 2 * (k + 1)) H10.out dn Q.keys.length HWR.out (by rw [HDE.out]; cases dn with
                  | true => exact HWR.out
                  | false => exact congrArg List.length (keys_waits rfl)) on o.A o.B _ aT aF _ capT _ capF o.dn).mono ?_
                rintro _ w11 ⟨rfl, hb11⟩
                have HB11 : Hid (Below w.heap.size w w11) := hb11
                clear hb11
                go_wp2
                go_ret
                exact ⟨rfl, HB11.out⟩
        · subst h8
          obtain ⟨W1, hW1⟩ : ∃ W1, W1 = wr.alloc (.cells #[.int .i64 8, .int .i64 on, .int .i64 o.A, .int .i64 o.B, .int .u8 (o.v.toNat : Int), .slice aT o.T.length capT, .slice aF o.fates.length capF, .bool o.dn] 53) := ⟨_, rfl⟩
          have hbW : Below wr.heap.size wr W1 := by rw [hW1]; exact (Below.refl _ _).alloc (Nat.le_refl _) _
          have HROW1 : Hid (W1.heap[wr.heap.size]? = some (.cells #[.int .i64 8, .int .i64 on, .int .i64 o.A, .int .i64 o.B, .int .u8 (o.v.toNat : Int), .slice aT o.T.length capT, .slice aF o.fates.length capF, .bool o.dn] 53 (0, 0))) := by rw [hW1]; exact (MapKept.heap_alloc wr _).1
          have HSZ1 : Hid (W1.heap.size = wr.heap.size + 1) := by show _ = _; rw [hW1]; simp
          have H1 : Hid (Two w W1 c d tc td Q (Q.armed (1 + (q : Int) - (cg : Int)) how dn) (l.length + 2 * k)) := HT.out.below hbW
          have HBW : Hid (Below w.heap.size wr W1) := hbW.mono HT.out.old.size
          have HKD : Hid (8 = o.kind) := hkd
          have HCL : Hid (∀ i, Own c tc i → i < wr.heap.size) := fun i hi => HT.out.mc.dev.own_lt hi
          have HDL : Hid (∀ i, Own d td i → i < wr.heap.size) := fun i hi => HT.out.md.dev.own_lt hi
          clear hbW hkd
          go_wp2_with fail
          rw [← hW1]
          clear hW1 c0 c1 c2 c3 c4 c5 c6 c7
          refine (pend_mine H1.out.mc).mono ?_
          rintro _ w7 ⟨ap, cp, rfl, hp, hm7, hk7⟩
          have H7 : Hid (Two w w7 c d tc td Q (Q.armed (1 + (q : Int) - (cg : Int)) how dn) (l.length + 2 * k)) := H1.out.onC hm7 (fun i hi => .inl hi) hk7 (fun i hi => .inl hi)
          have HROW7 : Hid (w7.heap[wr.heap.size]? = some (.cells #[.int .i64 8, .int .i64 on, .int .i64 o.A, .int .i64 o.B, .int .u8 (o.v.toNat : Int), .slice aT o.T.length capT, .slice aF o.fates.length capF, .bool o.dn] 53 (0, 0))) := (hk7.block wr.heap.size (by rw [HSZ1.out]; omega) (fun e => by have := HCL.out c (.inl rfl); omega)).trans HROW1.out
          have HSZ7 : Hid (wr.heap.size < w7.heap.size) := by have h1 := hk7.size; rw [HSZ1.out] at h1; exact h1
          have HB7 : Hid (Below w.heap.size wr w7) := HBW.out.trans (hk7.below (fun i hi => H1.out.mc.own i (.inl hi)) H1.out.old.size)
          have e0 := hdr_cell HROW7.out 0
          have e1 := hdr_cell HROW7.out 1
          have e2 := hdr_cell HROW7.out 2
          have e3 := hdr_cell HROW7.out 3
          have e4 := hdr_cell HROW7.out 4
          have e5 := hdr_cell HROW7.out 5
          have e6 := hdr_cell HROW7.out 6
          have e7 := hdr_cell HROW7.out 7
          clear hp hm7 hk7
          go_wp2_with fail
          have hdid := did_any w7 c tc (l.length + 2 * k) H7.out.mc.dev (by rw [H7.out.mc.ab]; exact H7.out.mc.good) (by omega) w.heap.size H7.out.old.size H7.out.mc.own o on aT aF capT capF HA.out (bytesIn_below HTT.out HB7.out) (fatesIn_below HF.out HB7.out)
          rw [← HKD.out] at hdid
          refine hdid.mono ?_
          clear hdid
          intro e w8 hd8
          obtain ⟨tc2, hm8, rfl, hk8, ho8⟩ := mine_step H7.out.mc H7.out.old.size hd8
          have H8 : Hid (Two w w8 c d tc2 td (Q.step o).1 (Q.armed (1 + (q : Int) - (cg : Int)) how dn) (l.length + 2 * k + 1)) := (H7.out.more (Nat.le_succ _)).onC hm8 (fun _ x => x) hk8 ho8
          have HROW8 : Hid (w8.heap[wr.heap.size]? = some (.cells #[.int .i64 8, .int .i64 on, .int .i64 o.A, .int .i64 o.B, .int .u8 (o.v.toNat : Int), .slice aT o.T.length capT, .slice aF o.fates.length capF, .bool o.dn] 53 (0, 0))) := (hk8.block wr.heap.size HSZ7.out (fun e => by have := HCL.out _ e; omega)).trans HROW7.out
          have HSZ8 : Hid (wr.heap.size < w8.heap.size) := Nat.lt_of_lt_of_le HSZ7.out hk8.size
          have HB8 : Hid (Below w.heap.size wr w8) := HB7.out.trans (hk8.below H7.out.mc.own H7.out.old.size)
          clear hd8 hm8 hk8 ho8 e0 e1 e2 e3 e4 e5 e6 e7
          have e0 := hdr_cell HROW8.out 0
          have e1 := hdr_cell HROW8.out 1
          have e2 := hdr_cell HROW8.out 2
          have e3 := hdr_cell HROW8.out 3
          have e4 := hdr_cell HROW8.out 4
          have e5 := hdr_cell HROW8.out 5
          have e6 := hdr_cell HROW8.out 6
          have e7 := hdr_cell HROW8.out 7
          go_wp2_with fail
          have hdid := did_any w8 d td (l.length + 2 * k + 1) H8.out.md.dev (by rw [H8.out.md.ab]; exact H8.out.md.good) (by omega) w.heap.size H8.out.old.size H8.out.md.own o on aT aF capT capF HA.out (bytesIn_below HTT.out HB8.out) (fatesIn_below HF.out HB8.out)
          rw [← HKD.out] at hdid
          refine hdid.mono ?_
          clear hdid
          intro e w9 hd9
          obtain ⟨td2, hm9, rfl, hk9, ho9⟩ := mine_step H8.out.md H8.out.old.size hd9
          have H9 : Hid (Two w w9 c d tc2 td2 (Q.step o).1 ((Q.armed (1 + (q : Int) - (cg : Int)) how dn).step o).1 (l.length + 2 * (k + 1))) := (H8.out.more (Nat.le_succ _)).onD hm9 (fun _ x => x) hk9 ho9
          have HROW9 : Hid (w9.heap[wr.heap.size]? = some (.cells #[.int .i64 8, .int .i64 on, .int .i64 o.A, .int .i64 o.B, .int .u8 (o.v.toNat : Int), .slice aT o.T.length capT, .slice aF o.fates.length capF, .bool o.dn] 53 (0, 0))) := (hk9.block wr.heap.size HSZ8.out (fun e => by have := HDL.out _ e; omega)).trans HROW8.out
          have HSZ9 : Hid (wr.heap.size < w9.heap.size) := Nat.lt_of_lt_of_le HSZ8.out hk9.size
          have HB9 : Hid (Below w.heap.size wr w9) := HB8.out.trans (hk9.below H8.out.md.own H8.out.old.size)
          clear hd9 hm9 hk9 ho9 e0 e1 e2 e3 e4 e5 e6 e7
          have e0 := hdr_cell HROW9.out 0
          have e1 := hdr_cell HROW9.out 1
          have e2 := hdr_cell HROW9.out 2
          have e3 := hdr_cell HROW9.out 3
          have e4 := hdr_cell HROW9.out 4
          have e5 := hdr_cell HROW9.out 5
          have e6 := hdr_cell HROW9.out 6
          have e7 := hdr_cell HROW9.out 7
          rcases step_two Q HQ.out o (by have := HKD.out; omega) with ⟨R, e, hR, hs, ha, hne⟩ | ⟨R, hR, hs, ha, hch⟩
          · have HRQ : Hid (Quiet R) := hR
            have H9' : Hid (Two w w9 c d tc2 td2 R (R.armed (1 + (q : Int) - (cg : Int)) how dn) (l.length + 2 * (k + 1))) := by
              have := H9.out
              rw [hs, ha] at this
              exact this
            rw [hs, ha]
            simp only
            clear H9 hs ha hR
            skip
            clear hne
            have hcz : (cg : Int) < 1 + (q : Int) := by omega
            by_cases hez : e = 0
            · subst hez
              go_wp2
              exact ⟨⟨k + 1, cg, tc2, td2, R, by omega, rfl, by go_num, hcq, by omega, HRQ.out, H9'.out⟩, by simp [intOf]; omega⟩
            · have hez2 : (e == 0) = false := by rw [beq_eq_false_iff_ne]; exact hez
              go_wp2
              exact ⟨⟨k + 1, cg, tc2, td2, R, by omega, rfl, by go_num, hcq, by omega, HRQ.out, H9'.out⟩, by simp [intOf]; omega⟩
          · exfalso
            rcases hch with ⟨h, _⟩ | ⟨h, _⟩
            · have := HKD.out; omega
            · have := HKD.out; omega
      · have e3 : (kd == 3) = false := by rw [beq_eq_false_iff_ne]; omega
        have e4 : (kd == 4) = false := by rw [beq_eq_false_iff_ne]; omega
        have e8 : (kd == 8) = false := by rw [beq_eq_false_iff_ne]; omega
        have n3 : (kd != 3) = true := by simp [bne, e3]
        have n4 : (kd != 4) = true := by simp [bne, e4]
        have n8 : (kd != 8) = true := by simp [bne, e8]
        have H7 : Hid (Two w (wr.alloc (.cells #[.int .i64 kd, .int .i64 on, .int .i64 o.A, .int .i64 o.B, .int .u8 (o.v.toNat : Int), .slice aT o.T.length capT, .slice aF o.fates.length capF, .bool o.dn] 53)) c d tc td Q (Q.armed (1 + (q : Int) - (cg : Int)) how dn) (l.length + 2 * (k + 1))) := (HT.out.below ((Below.refl _ _).alloc (Nat.le_refl _) _)).more (by omega)
        clear hkind hkd
        go_wp2
        exact ⟨⟨k + 1, cg, tc, td, Q, by omega, rfl, by go_num, hcq, by omega, HQ.out, H7.out⟩, by simp [intOf]; omega⟩
    · obtain rfl : k = m.length := by omega
      go_wp2_with fail
      refine (off_any 65536 _ d td HT.out.md.dev).mono ?_
      rintro _ w7 ⟨rfl, _, hk7⟩
      have hoffd : td.off = false := (congrArg Ab.off HT.out.md.ab).trans HQ.out.off
      rw [hoffd]
      have HB7 : Hid (Below w.heap.size w w7) := HT.out.old.trans (hk7.below (fun i hi => HT.out.md.own i (.inl hi)) HT.out.old.size)
      clear hk7 hoffd
      go_wp2
      go_ret
      exact ⟨rfl, HB7.out⟩
end Go.Proofs.Ytphnajphgiinfaa
