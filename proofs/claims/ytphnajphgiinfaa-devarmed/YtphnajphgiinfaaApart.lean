/- The law DevApart's walk. -/
import Derived.Test.YtphnajphgiinfaaBeside
namespace Go.Proofs.Ytphnajphgiinfaa
open Go.RowKit Go.Maps Go.MuLone Go.Sort

/-- A device and two copies of it, on which the same was done. -/
structure Three (w0 w : World) (d a b : Nat) (sd sa sb : St) (xd x : Ab) (k : Nat) : Prop where
  md : Mine w0.heap.size w d sd xd k
  ma : Mine w0.heap.size w a sa x k
  mb : Mine w0.heap.size w b sb x k
  da : Apart d sd a sa
  db : Apart d sd b sb
  ab : Apart a sa b sb
  old : Below w0.heap.size w0 w

theorem Three.onA {w0 w w' : World} {d a b : Nat} {sd sa sb t : St} {xd x : Ab} {k : Nat} (h : Three w0 w d a b sd sa sb xd x k) {y : Ab} {k' : Nat} (_hm : Mine w0.heap.size w' a t y k') (hk : Kept (Own a sa) w w') (ho : ∀ i, Own a t i → Own a sa i ∨ w.heap.size ≤ i) :
    Mine w0.heap.size w' d sd xd k ∧ Mine w0.heap.size w' b sb x k ∧ Apart d sd a t ∧ Apart a t b sb ∧ Below w0.heap.size w0 w' :=
  ⟨h.md.kept h.ma.dev (fun _ x => x) hk h.da, h.mb.kept h.ma.dev (fun _ x => x) hk h.ab.symm, (h.da.symm.next h.md.dev ho).symm, h.ab.next h.mb.dev ho, h.old.trans (hk.below h.ma.own h.old.size)⟩

theorem turned_twice (bs : List UInt8) (k : Nat) (x : UInt8) : turned (turned bs k x) k x = bs := by
  unfold turned
  by_cases h : k < bs.length
  · have e : (bs.set k ((bs[k]?.getD 0) ^^^ x))[k]? = some ((bs[k]?.getD 0) ^^^ x) := by rw [List.getElem?_set]; simp [h]
    rw [e, List.set_set, List.getElem?_eq_getElem h]
    simp [UInt8.xor_assoc]
  · rw [List.set_eq_of_length_le (by simp; omega), List.set_eq_of_length_le (by omega)]

theorem shows_flipped (a : Ab) (hw : a.waits = fun _ => []) (n : Int) (j : Nat) (x : UInt8) (bs : List UInt8) (h : a.shows n = some bs) :
    (a.flipped n j x).2 = 0 ∧ (a.flipped n j x).1.shows n = some (turned bs j x) ∧ (a.flipped n j x).1.waits = (fun _ => []) ∧ (a.flipped n j x).1.blocks = a.blocks ∧ (a.flipped n j x).1.size = a.size ∧ (a.flipped n j x).1.off = a.off := by
  unfold Ab.flipped
  rw [h]
  simp only [hw, if_true]
  refine ⟨trivial, ?_, trivial, trivial, trivial, trivial⟩
  unfold Ab.shows
  simp
theorem shows_unflipped (a : Ab) (n : Int) (j : Nat) (x : UInt8) (h : a.shows n = none) : a.flipped n j x = (a, 14) := by
  unfold Ab.flipped
  rw [h]

theorem ends_dims (a r : Ab) (h : r.size = a.size ∧ r.blocks = a.blocks) : (a.ends r).1.size = a.size ∧ (a.ends r).1.blocks = a.blocks := by
  unfold Ab.ends
  split
  · split
    · exact h
    · exact ⟨rfl, rfl⟩
  · exact h
theorem step_dims (a : Ab) (o : OpA) : (a.step o).1.size = a.size ∧ (a.step o).1.blocks = a.blocks := by
  unfold Ab.step
  split
  · split
    · exact ⟨rfl, rfl⟩
    · split
      · exact ⟨rfl, rfl⟩
      · exact ends_dims a _ ⟨rfl, rfl⟩
  · split
    · split
      · exact ⟨rfl, rfl⟩
      · exact ends_dims a _ ⟨rfl, rfl⟩
    · split
      · split
        · exact ⟨rfl, rfl⟩
        · split <;> exact ⟨rfl, rfl⟩
      · split
        · exact ⟨rfl, rfl⟩
        · split
          · split
            · exact ⟨rfl, rfl⟩
            · split
              · exact ⟨rfl, rfl⟩
              · unfold Ab.flipped
                split
                · exact ⟨rfl, rfl⟩
                · split <;> exact ⟨rfl, rfl⟩
          · exact ⟨rfl, rfl⟩
theorem run_dims (a : Ab) (l : List OpA) : (a.run l).size = a.size ∧ (a.run l).blocks = a.blocks := by
  unfold Ab.run
  induction l generalizing a with
  | nil => exact ⟨rfl, rfl⟩
  | cons o r ih =>
    have h := step_dims a o
    have h2 := ih (a.step o).1
    exact ⟨h2.1.trans h.1, h2.2.trans h.2⟩

theorem Mine.low {N N' k : Nat} {w : World} {b : Nat} {s : St} {a : Ab} (h : Mine N w b s a k) (hN : N' ≤ N) : Mine N' w b s a k := ⟨h.dev, h.ab, h.good, fun i hi => Nat.le_trans hN (h.own i hi)⟩
theorem Three.onD {w0 w w' : World} {d a b : Nat} {sd sa sb t : St} {xd x y : Ab} {k : Nat} {S : Nat → Prop} (h : Three w0 w d a b sd sa sb xd x k) (hm : Mine w0.heap.size w' d t y k) (hS : ∀ i, S i → Own d sd i) (hk : Kept S w w') (ho : ∀ i, Own d t i → Own d sd i ∨ w.heap.size ≤ i) :
    Three w0 w' d a b t sa sb y x k :=
  ⟨hm, h.ma.kept h.md.dev hS hk h.da.symm, h.mb.kept h.md.dev hS hk h.db.symm, h.da.next h.ma.dev ho, h.db.next h.mb.dev ho, h.ab, h.old.trans (hk.below (fun i hi => h.md.own i (hS i hi)) h.old.size)⟩
theorem Three.below {w0 w w' : World} {d a b : Nat} {sd sa sb : St} {xd x : Ab} {k : Nat} (h : Three w0 w d a b sd sa sb xd x k) (hb : Below w.heap.size w w') : Three w0 w' d a b sd sa sb xd x k :=
  ⟨h.md.below hb, h.ma.below hb, h.mb.below hb, h.da, h.db, h.ab, h.old.trans (hb.mono h.old.size)⟩
/-- One step done on both copies. -/
theorem Three.onB {w0 w w' : World} {d a b : Nat} {sd sa sb t : St} {xd x y : Ab} {k : Nat} (hd : Mine w0.heap.size w d sd xd k) (ha : Mine w0.heap.size w a sa y (k + 1)) (hb : Mine w0.heap.size w b sb x k) (da : Apart d sd a sa) (db : Apart d sd b sb) (ab : Apart a sa b sb) (old : Below w0.heap.size w0 w)
    (hm : Mine w0.heap.size w' b t y (k + 1)) (hk : Kept (Own b sb) w w') (ho : ∀ i, Own b t i → Own b sb i ∨ w.heap.size ≤ i) : Three w0 w' d a b sd sa t xd y (k + 1) :=
  ⟨(hd.kept hb.dev (fun _ x => x) hk db).more (Nat.le_succ k), ha.kept hb.dev (fun _ x => x) hk ab, hm, da, (db.symm.next hd.dev ho).symm, (ab.symm.next ha.dev ho).symm, old.trans (hk.below hb.own old.size)⟩

theorem size_len {S n : Nat} (hS : S = 512 ∨ S = 1024 ∨ S = 2048 ∨ S = 4096) (h : ¬ (2147483647 / S < n)) : n ≤ 4194303 := by
  rcases hS with rfl | rfl | rfl | rfl <;> omega

set_option maxHeartbeats 4000000 in
set_option maxRecDepth 100000 in
theorem apart_walk (x0 x1 : Int) (w : World) (wx0 : (Lit.int .i64 x0).wf = true) (wx1 : (Lit.int .i64 x1).wf = true) (aS aM : Option Addr) (capS capM : Nat) (l m : List OpA) (hl : OpsAt w.heap.size w aS l) (hm : OpsAt w.heap.size w aM m) (at_ : Int) (hat : (Lit.int .i64 at_).wf = true) (by_ : UInt8) :
    Calls Try.prog 6 #[.int .i64 x0, .int .i64 x1, .slice aS l.length capS, .slice aM m.length capM, .int .i64 at_, .int .u8 (by_.toNat : Int)] w fun e w' => e = .returned (.bool true) ∧ Below w.heap.size w w' := by
  have HL : Hid (OpsAt w.heap.size w aS l) := hl
  have HM : Hid (OpsAt w.heap.size w aM m) := hm
  have HAT : Hid ((Lit.int .i64 at_).wf = true) := hat
  have HX : Hid ((Lit.int .i64 x0).wf = true ∧ (Lit.int .i64 x1).wf = true) := ⟨wx0, wx1⟩
  clear hl hm hat wx0 wx1
  go_enter Try.func6, Try.ntmps6
  go_wp2_with fail
  refine (awake_any _).mono ?_
  rintro _ w1 ⟨rfl, hb1⟩
  have HB1 : Hid (Below w.heap.size w w1) := hb1
  clear hb1
  go_wp2_with fail
  refine (sized_any x0 x1 _ HX.out.1 HX.out.2).mono ?_
  rintro _ w2 ⟨rfl, hb2⟩
  have HB2 : Hid (Below w.heap.size w w2) := HB1.out.trans (hb2.mono HB1.out.size)
  have HS : Hid _ := size_cases x0
  have HBL : Hid _ := blocks_range x1
  clear hb2
  generalize sizeOfRaw x0 = S at *
  generalize blocksOfRaw x1 = B at *
  go_wp2_with fail
  refine (beyond_any _ _ _ _ S HS.out).mono ?_
  rintro _ _ ⟨rfl, rfl⟩
  by_cases hbl : 2147483647 / S < l.length
  · rw [decide_eq_true hbl]
    clear hbl
    go_wp2
    go_ret
    exact ⟨rfl, HB2.out⟩
  rw [decide_eq_false hbl]
  have hll : l.length ≤ 4194303 := size_len HS.out hbl
  clear hbl
  go_wp2_with fail
  refine (beyond_any _ _ _ _ S HS.out).mono ?_
  rintro _ _ ⟨rfl, rfl⟩
  by_cases hbm : 2147483647 / S < m.length
  · rw [decide_eq_true hbm]
    clear hbm
    go_wp2
    go_ret
    exact ⟨rfl, HB2.out⟩
  rw [decide_eq_false hbm]
  have hml : m.length ≤ 4194303 := size_len HS.out hbm
  clear hbm
  go_wp2_with fail
  refine (played_any S B _ HS.out HBL.out w.heap.size HB2.out.size aS capS l (HL.out.below HB2.out) hll).mono ?_
  rintro _ w3 ⟨d, sd, rfl, hm3, hb3⟩
  have HB3 : Hid (Below w.heap.size w w3) := HB2.out.trans (hb3.mono HB2.out.size)
  have HD3 : Hid (Mine w.heap.size w3 d sd ((Ab.new S B).run l) l.length) := hm3.low HB2.out.size
  have HDI : Hid _ := run_dims (Ab.new S B) l
  clear hm3 hb3
  obtain ⟨X, hX⟩ : ∃ X, X = (Ab.new S B).run l := ⟨_, rfl⟩
  rw [← hX] at HD3 HDI
  have HXE : Hid _ := hX
  clear hX
  go_wp2_with fail
  refine (copy_mine HD3.out HB3.out.size (by omega)).mono ?_
  rintro _ w4 ⟨a, sa, rfl, hmd4, hma4, hna, hk4⟩
  have HD4 : Hid (Mine w.heap.size w4 d sd X l.length) := hmd4
  have HA4 : Hid (Mine w.heap.size w4 a sa X l.length) := hma4
  have HDA : Hid (Apart d sd a sa) := fun i hi hj => by have := hna i hj; have := HD3.out.dev.own_lt hi; omega
  have HB4 : Hid (Below w.heap.size w w4) := HB3.out.trans (hk4.below (fun i hi => HD3.out.own i (.inl hi)) HB3.out.size)
  clear hmd4 hma4 hna hk4
  go_wp2_with fail
  refine (copy_mine HD4.out HB4.out.size (by omega)).mono ?_
  rintro _ w5 ⟨b, sb, rfl, hmd5, hmb5, hnb, hk5⟩
  have H3 : Hid (Three w w5 d a b sd sa sb X X l.length) := by
    refine ⟨hmd5, HA4.out.kept HD4.out.dev (fun i hi => .inl hi) hk5 HDA.out.symm, hmb5, HDA.out, fun i hi hj => ?_, fun i hi hj => ?_, HB4.out.trans (hk5.below (fun i hi => HD4.out.own i (.inl hi)) HB4.out.size)⟩
    · have := hnb i hj; have := HD4.out.dev.own_lt hi; omega
    · have := hnb i hj; have := HA4.out.dev.own_lt hi; omega
  clear hmd5 hmb5 hnb hk5
  go_wp2
  go_loopw [17] (fun i wr => ∃ (k : Nat) (ta tb : St), k ≤ m.length ∧ i = .int .i64 k ∧ Three w wr d a b sd ta tb X (X.run (m.take k)) (l.length + k)) (fun i _ => m.length - (intOf i).toNat)
  case atStart => exact ⟨0, sa, sb, Nat.zero_le _, rfl, H3.out⟩
  case round =>
    obtain ⟨k, ta, tb, hk, rfl, hthree⟩ := hrel
    have HT : Hid (Three w wr d a b sd ta tb X (X.run (m.take k)) (l.length + k)) := hthree
    clear hthree
    by_cases hlt : k < m.length
    · have hkz : (k : Int) < (m.length : Int) := by omega
      obtain ⟨o, ho⟩ : ∃ o, m[k]? = some o := ⟨m[k], List.getElem?_eq_getElem hlt⟩
      obtain ⟨hA, g, off, on, aT, capT, aF, capF, rfl, hg, c0, c1, c2, c3, c4, c5, c6, c7, hT, hF⟩ := (HM.out k o ho).below HT.out.old
      have HO : Hid _ := ho
      have HTT : Hid (BytesIn w.heap.size wr aT o.T) := hT
      have HF : Hid (FatesIn w.heap.size wr aF o.fates) := hF
      have HA : Hid ((Lit.int .i64 o.A).wf = true) := hA
      clear ho hT hF hA
      go_wp2_with fail
      refine (did_any wr a ta (l.length + k) HT.out.ma.dev (by rw [HT.out.ma.ab]; exact HT.out.ma.good) (by omega) w.heap.size HT.out.old.size HT.out.ma.own o on aT aF capT capF HA.out HTT.out HF.out).mono ?_
      intro e w6 hd
      obtain ⟨ta2, hm2, rfl, hk2, ho2⟩ := mine_step HT.out.ma HT.out.old.size hd
      obtain ⟨q1, q2, q3, q4, q5⟩ := HT.out.onA hm2 hk2 ho2
      have hB6 : Below w.heap.size wr w6 := hk2.below HT.out.ma.own HT.out.old.size
      have d0 := (hB6.cell (p := ⟨g, off + k * 8, none⟩) hg).trans c0
      have d1 := (hB6.cell (p := ⟨g, off + k * 8 + 1, none⟩) hg).trans c1
      have d2 := (hB6.cell (p := ⟨g, off + k * 8 + 2, none⟩) hg).trans c2
      have d3 := (hB6.cell (p := ⟨g, off + k * 8 + 3, none⟩) hg).trans c3
      have d4 := (hB6.cell (p := ⟨g, off + k * 8 + 4, none⟩) hg).trans c4
      have d5 := (hB6.cell (p := ⟨g, off + k * 8 + 5, none⟩) hg).trans c5
      have d6 := (hB6.cell (p := ⟨g, off + k * 8 + 6, none⟩) hg).trans c6
      have d7 := (hB6.cell (p := ⟨g, off + k * 8 + 7, none⟩) hg).trans c7
      have HT6 : Hid (BytesIn w.heap.size w6 aT o.T) := bytesIn_below HTT.out hB6
      have HF6 : Hid (FatesIn w.heap.size w6 aF o.fates) := fatesIn_below HF.out hB6
      have HQ1 : Hid (Mine w.heap.size w6 d sd X (l.length + k)) := q1
      have HQ2 : Hid (Mine w.heap.size w6 b tb (X.run (m.take k)) (l.length + k)) := q2
      have HQ3 : Hid (Apart d sd a ta2) := q3
      have HQ4 : Hid (Apart a ta2 b tb) := q4
      have HQ5 : Hid (Below w.heap.size w w6) := q5
      have HM2 : Hid (Mine w.heap.size w6 a ta2 ((X.run (m.take k)).step o).1 (l.length + k + 1)) := hm2
      clear hd hm2 hk2 ho2 q1 q2 q3 q4 q5 hB6 c0 c1 c2 c3 c4 c5 c6 c7
      go_wp2_with fail
      refine (did_any w6 b tb (l.length + k) HQ2.out.dev (by rw [HQ2.out.ab]; exact HQ2.out.good) (by omega) w.heap.size HQ5.out.size HQ2.out.own o on aT aF capT capF HA.out HT6.out HF6.out).mono ?_
      intro e w7 hd7
      obtain ⟨tb2, hm7, rfl, hk7, ho7⟩ := mine_step HQ2.out HQ5.out.size hd7
      have H7 : Hid (Three w w7 d a b sd ta2 tb2 X (X.run (m.take (k + 1))) (l.length + k + 1)) := by
        rw [run_take _ _ _ _ HO.out]
        exact Three.onB HQ1.out HM2.out HQ2.out HQ3.out HT.out.db HQ4.out HQ5.out hm7 hk7 ho7
      clear hd7 hm7 hk7 ho7 d0 d1 d2 d3 d4 d5 d6 d7
      go_wp2
      exact ⟨⟨k + 1, ta2, tb2, by omega, by go_num, H7.out⟩, by simp [intOf]; omega⟩
    · obtain rfl : k = m.length := by omega
      obtain ⟨Y, hY⟩ : ∃ Y, Y = X.run (m.take m.length) := ⟨_, rfl⟩
      rw [← hY] at HT
      clear hY hlt hk
      obtain ⟨K, hK⟩ : ∃ K, K = l.length + m.length := ⟨_, rfl⟩
      rw [← hK] at HT
      have hK2 : K ≤ 8388606 := by omega
      clear hK
      obtain ⟨Z, hZ⟩ : ∃ Z, Z = X.lost := ⟨_, rfl⟩
      have HZ : Hid (Z.off = false ∧ Z.blocks = B ∧ Z.size = S ∧ Z.waits = fun _ => []) := by rw [hZ]; exact ⟨rfl, HDI.out.2, HDI.out.1, rfl⟩
      have HZX : Hid (X.lost = Z) := hZ.symm
      clear hZ
      go_wp2_with fail
      refine (lost_mine HT.out.md HT.out.old.size (by omega)).mono ?_
      rintro _ w8 ⟨td, rfl, hm8, hk8, ho8⟩
      rw [HZX.out] at hm8
      have H8 : Hid (Three w w8 d a b td ta tb Z Y K) := HT.out.onD hm8 (fun _ x => x) hk8 ho8
      clear hm8 hk8 ho8
      obtain ⟨hB1, hB2⟩ := HBL.out
      have hSb : 512 ≤ S ∧ S ≤ 4096 := by rcases HS.out with e | e | e | e <;> omega
      obtain ⟨n, hn⟩ : ∃ n : Nat, pickOf at_ (B : Int) = (n : Int) := ⟨(pickOf at_ (B : Int)).toNat, by have := (pickOf_range at_ (B : Int) (by omega)).1; omega⟩
      have hnB : n < B := by have := (pickOf_range at_ (B : Int) (by omega)).2; omega
      obtain ⟨j, hj⟩ : ∃ j : Nat, pickOf at_ (S : Int) = (j : Int) := ⟨(pickOf at_ (S : Int)).toNat, by have := (pickOf_range at_ (S : Int) (by omega)).1; omega⟩
      have hjS : j < S := by have := (pickOf_range at_ (S : Int) (by omega)).2; omega
      have HPN : Hid (pickOf at_ (B : Int) = (n : Int)) := hn
      have HPJ : Hid (pickOf at_ (S : Int) = (j : Int)) := hj
      have HWN : Hid ((Lit.int .i64 (n : Int)).wf = true) := by
        show _ = _
        simp [Lit.wf, IntKind.min, IntKind.max, IntKind.bits, IntKind.signed]
        omega
      have HIN : Hid (inRange (n : Int) B = true) := by show _ = _; simp [inRange]; omega
      clear hn hj
      go_wp2_with fail
      refine (pick_any at_ B _ HAT.out (by omega) (by omega)).mono ?_
      rintro _ _ ⟨rfl, rfl⟩
      rw [HPN.out]
      obtain ⟨Z1, hZ1⟩ : ∃ Z1, Z1 = (Z.flipped n j by_).1 := ⟨_, rfl⟩
      obtain ⟨Z2, hZ2⟩ : ∃ Z2, Z2 = (Z1.flipped n j by_).1 := ⟨_, rfl⟩
      obtain ⟨ob, eb, str, hfacts⟩ : ∃ (ob : Bool) (eb : Int) (str : ByteArray), Z.seen n = str ∧ (Z.shows n).isSome = ob ∧ (Z.flipped n j by_).2 = eb ∧ (Z1.shows n).isSome = ob ∧ (Z1.flipped n j by_).2 = eb ∧ Z2.seen n = str ∧ (Z2.shows n).isSome = ob ∧ ((ob = true ∧ eb = 0) ∨ (ob = false ∧ eb = 14)) ∧ Z1.off = false ∧ Z1.blocks = B ∧ Z1.size = S ∧ Z2.off = false ∧ Z2.blocks = B := by
        obtain ⟨z1, z2, z3, z4⟩ := HZ.out
        cases hsh : Z.shows n with
        | none =>
          have e1 := shows_unflipped Z n j by_ hsh
          have eZ1 : Z1 = Z := by rw [hZ1, e1]
          have eZ2 : Z2 = Z := by rw [hZ2, eZ1, e1]
          refine ⟨false, 14, ByteArray.empty, ?_, rfl, by rw [e1], by rw [eZ1, hsh]; rfl, by rw [eZ1, e1], ?_, by rw [eZ2, hsh]; rfl, .inr ⟨rfl, rfl⟩, by rw [eZ1]; exact z1, by rw [eZ1]; exact z2, by rw [eZ1]; exact z3, by rw [eZ2]; exact z1, by rw [eZ2]; exact z2⟩
          · unfold Ab.seen; rw [hsh]
          · rw [eZ2]; unfold Ab.seen; rw [hsh]
        | some bs =>
          obtain ⟨f1, f2, f3, f4, f5, f6⟩ := shows_flipped Z z4 n j by_ bs hsh
          rw [← hZ1] at f2 f3 f4 f5 f6
          obtain ⟨g1, g2, g3, g4, g5, g6⟩ := shows_flipped Z1 f3 n j by_ _ f2
          rw [← hZ2, turned_twice] at g2
          rw [← hZ2] at g3 g4 g5 g6
          refine ⟨true, 0, strB bs, ?_, rfl, f1, by rw [f2]; rfl, g1, ?_, by rw [g2]; rfl, .inl ⟨rfl, rfl⟩, by rw [f6]; exact z1, by rw [f4]; exact z2, by rw [f5]; exact z3, by rw [g6, f6]; exact z1, by rw [g4, f4]; exact z2⟩
          · unfold Ab.seen; rw [hsh]
          · unfold Ab.seen; rw [g2]
      have HF : Hid _ := hfacts
      have HZ1 : Hid _ := hZ1
      have HZ2 : Hid _ := hZ2
      clear hfacts hZ1 hZ2
      go_wp2_with fail
      refine (shown_mine H8.out.md HZ.out.1 n HWN.out (by rw [HZ.out.2.1]; exact HIN.out)).mono ?_
      rintro _ w9 ⟨t9, rfl, hm9, hk9, ho9⟩
      rw [HF.out.1, HF.out.2.1]
      have H9 : Hid (Three w w9 d a b t9 ta tb Z Y K) := H8.out.onD hm9 (fun i hi => .inl hi) hk9 (fun i hi => .inl (ho9 i hi))
      clear hm9 hk9 ho9
      go_wp2_with fail
      refine (pick_any at_ S _ HAT.out (by omega) (by omega)).mono ?_
      rintro _ _ ⟨rfl, rfl⟩
      rw [HPJ.out]
      go_wp2_with fail
      refine (flip_mine H9.out.md (by omega) HZ.out.1 n HWN.out (by rw [HZ.out.2.1]; exact HIN.out) j (by rw [HZ.out.2.2.1]; exact hjS) by_).mono ?_
      rintro _ w10 ⟨t10, rfl, hm10, hk10, ho10⟩
      rw [HF.out.2.2.1]
      rw [← HZ1.out] at hm10
      have H10 : Hid (Three w w10 d a b t10 ta tb Z1 Y K) := H9.out.onD hm10 (fun _ x => x) hk10 (fun i hi => .inl (ho10 i hi))
      clear hm10 hk10 ho10
      go_wp2_with fail
      refine (shown_mine H10.out.md HF.out.2.2.2.2.2.2.2.2.1 n HWN.out (by rw [HF.out.2.2.2.2.2.2.2.2.2.1]; exact HIN.out)).mono ?_
      rintro _ w11 ⟨t11, rfl, hm11, hk11, ho11⟩
      rw [HF.out.2.2.2.1]
      have H11 : Hid (Three w w11 d a b t11 ta tb Z1 Y K) := H10.out.onD hm11 (fun i hi => .inl hi) hk11 (fun i hi => .inl (ho11 i hi))
      clear hm11 hk11 ho11
      go_wp2_with fail
      refine (pick_any at_ S _ HAT.out (by omega) (by omega)).mono ?_
      rintro _ _ ⟨rfl, rfl⟩
      rw [HPJ.out]
      go_wp2_with fail
      refine (flip_mine H11.out.md (by omega) HF.out.2.2.2.2.2.2.2.2.1 n HWN.out (by rw [HF.out.2.2.2.2.2.2.2.2.2.1]; exact HIN.out) j (by rw [HF.out.2.2.2.2.2.2.2.2.2.2.1]; exact hjS) by_).mono ?_
      rintro _ w12 ⟨t12, rfl, hm12, hk12, ho12⟩
      rw [HF.out.2.2.2.2.1]
      rw [← HZ2.out] at hm12
      have H12 : Hid (Three w w12 d a b t12 ta tb Z2 Y K) := H11.out.onD hm12 (fun _ x => x) hk12 (fun i hi => .inl (ho12 i hi))
      clear hm12 hk12 ho12
      go_wp2_with fail
      refine (shown_mine H12.out.md HF.out.2.2.2.2.2.2.2.2.2.2.2.1 n HWN.out (by rw [HF.out.2.2.2.2.2.2.2.2.2.2.2.2]; exact HIN.out)).mono ?_
      rintro _ w13 ⟨t13, rfl, hm13, hk13, ho13⟩
      rw [HF.out.2.2.2.2.2.1, HF.out.2.2.2.2.2.2.1]
      have H13 : Hid (Three w w13 d a b t13 ta tb Z2 Y K) := H12.out.onD hm13 (fun i hi => .inl hi) hk13 (fun i hi => .inl (ho13 i hi))
      clear hm13 hk13 ho13
      go_wp2_with fail
      refine (played_any S B _ HS.out HBL.out w.heap.size H13.out.old.size aS capS l (HL.out.below H13.out.old) hll).mono ?_
      rintro _ w14 ⟨c, sc, rfl, hmc, hbc⟩
      rw [← HXE.out] at hmc
      have HC14 : Hid (Mine w13.heap.size w14 c sc X l.length) := hmc
      have HB14 : Hid (Below w13.heap.size w13 w14) := hbc
      clear hmc hbc
      go_wp2_with fail
      refine (lost_mine HC14.out HB14.out.size (by omega)).mono ?_
      rintro _ w15 ⟨sc2, rfl, hmc, hkc, hoc⟩
      rw [HZX.out] at hmc
      have HC15 : Hid (Mine w13.heap.size w15 c sc2 Z l.length) := hmc
      have HB15 : Hid (Below w13.heap.size w13 w15) := HB14.out.trans (hkc.below HC14.out.own HB14.out.size)
      clear hmc hkc hoc
      go_wp2_with fail
      refine (shown_mine HC15.out HZ.out.1 n HWN.out (by rw [HZ.out.2.1]; exact HIN.out)).mono ?_
      rintro _ w16 ⟨sc3, rfl, hmc, hkc, hoc⟩
      rw [HF.out.1, HF.out.2.1]
      have H16 : Hid (Three w w16 d a b t13 ta tb Z2 Y K) := H13.out.below (HB15.out.trans (hkc.below (fun i hi => HC15.out.own i (.inl hi)) HB15.out.size))
      clear hmc hkc hoc
      have hoe := HF.out.2.2.2.2.2.2.2.1
      clear HF
      have hend : ∀ q : Unit, (eb == 0) = ob := fun _ => by
        rcases hoe with ⟨e1, e2⟩ | ⟨e1, e2⟩
        · rw [e1, e2]; rfl
        · rw [e1, e2]; rfl
      have hend1 := hend ()
      clear hend hoe
      go_wp2_with fail
      refine (pending_any 65536 w16 a ta H16.out.ma.dev (by decide)).mono ?_
      rintro _ w17 ⟨p, rfl, hp, hda, hka⟩
      have hwa : ta.waits = Y.waits := congrArg Ab.waits H16.out.ma.ab
      have hwb : tb.waits = Y.waits := congrArg Ab.waits H16.out.mb.ab
      have hoa : ta.off = Y.off := congrArg Ab.off H16.out.ma.ab
      have hob : tb.off = Y.off := congrArg Ab.off H16.out.mb.ab
      have hKl : Y.keys.length ≤ 65536 := by
        have := (keys_facts H16.out.ma.dev.mapW).2.2.1
        rw [keys_ab H16.out.ma.dev, H16.out.ma.ab] at this
        exact this
      rw [keys_ab H16.out.ma.dev, H16.out.ma.ab] at hp
      unfold pendCells at hp
      rw [hwa] at hp
      have HP17 : Hid (w17.ownsRow w16.heap.size 43 2 p Y.keys.length (Y.keys.flatMap fun n => [Value.int .i64 n, .int .i64 ((Y.waits n).length : Nat)])) := hp
      have HA17 : Hid (DevIs 0 65536 w17 a ta) := hda
      have HMB17 : Hid (Mine w.heap.size w17 b tb Y K) := H16.out.mb.kept H16.out.ma.dev (fun i hi => .inl hi) hka H16.out.ab.symm
      have HB17 : Hid (Below w.heap.size w w17) := H16.out.old.trans (hka.below (fun i hi => H16.out.ma.own i (.inl hi)) H16.out.old.size)
      have HS17 : Hid (w16.heap.size ≤ w17.heap.size) := hka.size
      have HWB : Hid _ := hwb
      have HOA : Hid _ := hoa
      have HOB : Hid _ := hob
      have HKL : Hid _ := hKl
      clear hp hda hka hwa hwb hoa hob hKl
      go_wp2_with fail
      refine (pending_any 65536 w17 b tb HMB17.out.dev (by decide)).mono ?_
      rintro _ w18 ⟨q, rfl, hq, hdb, hkb⟩
      rw [keys_ab HMB17.out.dev, HMB17.out.ab] at hq
      unfold pendCells at hq
      rw [HWB.out] at hq
      have HQ18 : Hid (w18.ownsRow w17.heap.size 43 2 q Y.keys.length (Y.keys.flatMap fun n => [Value.int .i64 n, .int .i64 ((Y.waits n).length : Nat)])) := hq
      have HP18 : Hid (w18.ownsRow w16.heap.size 43 2 p Y.keys.length (Y.keys.flatMap fun n => [Value.int .i64 n, .int .i64 ((Y.waits n).length : Nat)])) := row_kept HP17.out hkb (fun g hg e => by
        have h1 := row_fresh HP17.out hg
        have h2 := H16.out.mb.dev.own_lt (.inl rfl)
        omega)
      have HA18 : Hid (DevIs 0 65536 w18 a ta) := HA17.out.kept hkb (fun i hi e => H16.out.ab i hi (.inl e)) (fun g hg _ e => HMB17.out.dev.own_not_bytes (.inl e) hg)
      have HD18 : Hid (DevIs 0 65536 w18 b tb) := hdb
      have HB18 : Hid (Below w.heap.size w w18) := HB17.out.trans (hkb.below (fun i hi => HMB17.out.own i (.inl hi)) HB17.out.size)
      clear hq hdb hkb
      go_wp2_with fail
      refine (sameWaits_any w18 _ _ p q (fun n => (Y.waits n).length) Y.keys HP18.out HQ18.out (by have := HKL.out; omega)).mono ?_
      rintro _ w19 ⟨rfl, hb19⟩
      have HA19 : Hid (DevIs 0 65536 w19 a ta) := HA18.out.below hb19
      have HD19 : Hid (DevIs 0 65536 w19 b tb) := HD18.out.below hb19
      have HB19 : Hid (Below w.heap.size w w19) := HB18.out.trans (hb19.mono HB18.out.size)
      clear hb19
      go_wp2_with fail
      refine (off_any 65536 w19 a ta HA19.out).mono ?_
      rintro _ w20 ⟨rfl, _, hk20⟩
      rw [HOA.out]
      have HD20 : Hid (DevIs 0 65536 w20 b tb) := HD19.out.kept hk20 (fun i hi e => H16.out.ab i (.inl e) hi) (fun g hg _ e => HA19.out.own_not_bytes (.inl e) hg)
      have HB20 : Hid (Below w.heap.size w w20) := HB19.out.trans (hk20.below (fun i hi => H16.out.ma.own i (.inl hi)) HB19.out.size)
      clear hk20
      go_wp2_with fail
      refine (off_any 65536 w20 b tb HD20.out).mono ?_
      rintro _ w21 ⟨rfl, _, hk21⟩
      rw [HOB.out]
      have HB21 : Hid (Below w.heap.size w w21) := HB20.out.trans (hk21.below (fun i hi => H16.out.mb.own i (.inl hi)) HB20.out.size)
      clear hk21
      go_wp2
      go_ret
      exact ⟨rfl, HB21.out⟩
end Go.Proofs.Ytphnajphgiinfaa
