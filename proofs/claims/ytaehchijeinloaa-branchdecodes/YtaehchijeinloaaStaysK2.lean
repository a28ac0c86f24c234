/- stays: what was lent is as it was; then its owner writes over it. -/
import Derived.Test.YtaehchijeinloaaStaysK1
import Derived.BigRegion
namespace Go.Proofs.Ytaehchijeinloaa
open Go.RowKit

/-- While the pages are written over. -/
structure PStay (base gp : Nat) (W wx : World) (ps : List Int) (i : Nat) (R : List Int) : Prop where
  row : IRow base wx gp R
  len : R.length = ps.length + 3
  rest : ∀ k, i ≤ k → R[k]? = (ps ++ [-9, -9, -9])[k]?
  fits : ∀ p ∈ R, -9223372036854775808 ≤ p ∧ p ≤ 9223372036854775807
  only : Only gp W wx
theorem PStay.step {base gp : Nat} {W wx : World} {ps : List Int} {i : Nat} {R : List Int} (h : PStay base gp W wx ps i R) (p : Int) : PStay base gp W ((wx.setCell ⟨gp, i, none⟩ (.int .i64 (wrap64 p))).drew) ps (i + 1) (R.set i (wrap64 p)) :=
  ⟨⟨h.row.lo, (h.row.set i (wrap64 p)).row⟩, by rw [List.length_set]; exact h.len, fun k hk => by rw [List.getElem?_set_ne (by omega)]; exact h.rest k (by omega), fun x hx => by
    rcases List.mem_or_eq_of_mem_set hx with h' | rfl
    · exact h.fits x h'
    · exact wrap64_fits _, (h.only.trans (Only.set _ _ _ _)).drew⟩

theorem CellsAt.narrow {B B' g off n c : Nat} {w : World} {xs : List Value} (h : CellsAt B w (.slice (some ⟨g, off, none⟩) n c) xs) (hg : g < B') : CellsAt B' w (.slice (some ⟨g, off, none⟩) n c) xs := by
  obtain ⟨a, c', e, h1, h2, h3⟩ := h.is
  refine ⟨a, c', e, h1, h2, fun j u hj => ?_⟩
  obtain ⟨g', off', e1, _, h4⟩ := h3 j u hj
  subst e1
  simp only [Value.slice.injEq, Option.some.injEq, Addr.mk.injEq] at e
  exact ⟨g', off', rfl, by rw [← e.1.1]; exact hg, h4⟩
theorem KeyIn.narrow {B B' g n c : Nat} {w : World} {ks : Key} (h : KeyIn B w (.slice (some ⟨g, 0, none⟩) n c) ks) (hg : g < B') : KeyIn B' w (.slice (some ⟨g, 0, none⟩) n c) ks := by
  obtain ⟨a, c', e, h1, h2⟩ := h.is
  refine ⟨⟨a, c', e, fun j u hj => ?_, h2⟩, h.short⟩
  obtain ⟨g', off', e1, _, h4⟩ := h1 j u hj
  subst e1
  simp only [Value.slice.injEq, Option.some.injEq, Addr.mk.injEq] at e
  exact ⟨g', off', rfl, by rw [← e.1.1]; exact hg, h4⟩
theorem RowsAt.narrow {B B' gl n cl : Nat} {base i : Nat} {w w2 : World} {F : List Lk} {G : List Lr} (h : RowsAt base w2 F i G) (hk : KeysAt B w (.slice (some ⟨gl, 0, none⟩) n cl) (G.map fun y => ⟨y.z.lv, y.r.take y.z.k.length⟩)) (hg : gl < B') (hf : ∀ z ∈ F, z.g < B') : KeysAt B' w (.slice (some ⟨gl, 0, none⟩) n cl) (G.map fun y => ⟨y.z.lv, y.r.take y.z.k.length⟩) :=
  ⟨hk.row.narrow hg, hk.short, fun e he => by
    have h1 := hk.ok e he
    obtain ⟨y, hy, rfl⟩ := List.mem_map.1 he
    exact KeyIn.narrow h1 (hf y.z (by rw [← h.is]; exact List.mem_map.2 ⟨y, hy, rfl⟩))⟩

set_option maxHeartbeats 1600000 in
set_option maxRecDepth 100000 in
theorem stays_top {base b : Nat} {w0 w : World} {vq v : Value} {ps : List Int} {L : List Kc} {F : List Lk} (hx : LoanAt base w0 b vq ps F) (hb : Below w0.heap.size w0 w) (hlo : base ≤ w0.heap.size) (hk : F.map Lk.k = keysOf L) (hL : KidsAt base w v ps L) (hpl : ps.length ≤ 2147483647) (hll : L.length ≤ 2147483647) :
    Calls Try.prog 15 #[.pointer (some ⟨b, 0, none⟩), v] w fun e w' => e = .returned (.bool true) ∧ Mid base w0.heap.size w w' ∧ ∃ ps' L', KidsAt w0.heap.size w' vq ps' L' ∧ ps'.length = ps.length ∧ L'.map (fun e => e.k.length) = L.map (fun e => e.k.length) ∧ ∃ x y, vq = .agg #[x, y] ∧ w'.cell? ⟨b, 0, none⟩ = some x ∧ w'.cell? ⟨b, 1, none⟩ = some y := by
  obtain ⟨gp, gl, cl, vk, m1, m2, rfl, hbox, hbb, hpg, hkr, hlr, hok, hnd, hm1, hm2⟩ := hx.is
  obtain ⟨vp, vk', rfl, h1, h2⟩ := hL.is
  obtain ⟨a1, c1, rfl⟩ := h1.form
  obtain ⟨a2, c2, rfl⟩ := h2.form
  have hfl : F.length = L.length := by have := congrArg List.length hk; simpa [keysOf] using this
  have hwb : w0.heap.size ≤ w.heap.size := hb.size
  obtain ⟨ak, ck, e0⟩ := own_form hkr
  rw [hfl] at e0
  subst e0
  obtain ⟨W1, hW1⟩ : ∃ W1, W1 = w.alloc (.cells #[.slice a1 ps.length c1, .slice a2 L.length c2] 26) := ⟨_, rfl⟩
  have hb1 : Below w.heap.size w W1 := by rw [hW1]; exact below_new _ _
  have hb01 : Below w0.heap.size w0 W1 := hb.trans (hb1.mono hwb)
  have HB1 : Hid (Below w.heap.size w W1) := hb1
  have HPB : Hid (KBox W1 w.heap.size (.slice a1 ps.length c1) (.slice a2 L.length c2)) := by rw [hW1]; exact KBox.new w _ _
  have HBX : Hid (LBox W1 b (.slice (some ⟨gp, 0, none⟩) ps.length (ps.length + 3)) (.slice (some ⟨gl, 0, none⟩) L.length cl) (.slice (some ⟨gp, 0, none⟩) (ps.length + 3) (ps.length + 3)) (.slice ak L.length ck) (.slice (some ⟨gl, 0, none⟩) (L.length + 2) cl)) := by have h := hbox.here hb01; rw [hfl] at h; exact h
  have HPG : Hid (IRow base W1 gp (ps ++ [-9, -9, -9])) := hpg.here hb01
  have HKR : Hid (W1.ownsRow base 27 1 (.slice ak L.length ck) F.length (F.map Lk.kv)) := own_same hkr fun k _ hl => hb01.block k hl
  have HLR : Hid (W1.ownsRow base 27 1 (.slice (some ⟨gl, 0, none⟩) (F.length + 2) cl) (F.length + 2) (F.map Lk.lv ++ [m1, m2])) := own_same hlr fun k _ hl => hb01.block k hl
  have HOK : Hid (∀ z ∈ F, z.Ok base W1) := fun z hz => (hok z hz).here hb01
  have HM1 : Hid (KeyAt W1 m1 markK) := hm1.here hb01
  have HM2 : Hid (KeyAt W1 m2 markK) := hm2.here hb01
  have HND : Hid ((F.map Lk.g).Nodup) := hnd
  have HFL : Hid (F.length = L.length) := hfl
  have HFK : Hid (F.map Lk.k = keysOf L) := hk
  have HIN : Hid (IntsAt base W1 (.slice a1 ps.length c1) ps) := h1.below (hb1.mono (by omega))
  have HKS : Hid (KeysAt base W1 (.slice a2 L.length c2) L) := h2.below (hb1.mono (by omega))
  have HGP : Hid (gp < w0.heap.size) := hpg.lt
  have HGL : Hid (gl < w0.heap.size) := (own_type hlr gl rfl).1
  have HGS : Hid (∀ z ∈ F, z.g < w0.heap.size) := fun z hz => (hok z hz).lt
  have HSAME : Hid (∀ W, Below W1.heap.size W1 W → Calls Try.prog 27 #[.agg #[.slice (some ⟨gp, 0, none⟩) ps.length (ps.length + 3), .slice (some ⟨gl, 0, none⟩) L.length cl], .agg #[.slice a1 ps.length c1, .slice a2 L.length c2]] W fun e w' => e = .returned (.bool true) ∧ Below W.heap.size W w') := fun W hW => by
    have hq : KidsAt W1.heap.size W1 (.agg #[.slice (some ⟨gp, 0, none⟩) ps.length (ps.length + 3), .slice (some ⟨gl, 0, none⟩) L.length cl]) ps ((F.map fun z => (⟨z, z.k ++ mk3⟩ : Lr)).map fun y => ⟨y.z.lv, y.r.take y.z.k.length⟩) := by
      refine ⟨_, _, rfl, HPG.out.ints h1.short h1.fits _ (by omega), ?_⟩
      have h3 := (RowsAt.start HOK.out).keys HLR.out (by rw [HFL.out]; exact h2.short)
      rw [HFL.out] at h3; exact h3
    have hr : KidsAt W1.heap.size W1 (.agg #[.slice a1 ps.length c1, .slice a2 L.length c2]) ps L := ⟨_, _, rfl, HIN.out.mono (by have := hb1.size; omega), HKS.out.mono (by have := hb1.size; omega)⟩
    have h4 := same_any (hq.here hW) (hr.here hW)
    have h5 : kd ps ((F.map fun z => (⟨z, z.k ++ mk3⟩ : Lr)).map fun y => (⟨y.z.lv, y.r.take y.z.k.length⟩ : Kc)) = kd ps L := by
      unfold kd
      rw [Kd.mk.injEq]
      refine ⟨rfl, ?_⟩
      rw [← HFK.out]
      simp [keysOf]
    rw [h5, decide_eq_true rfl] at h4
    exact h4
  clear hx hb hk hL h1 h2 hbox hpg hkr hlr hok hm1 hm2 hnd hb1 hb01 hfl
  obtain ⟨k0, k1⟩ := HPB.out.cells
  obtain ⟨q0, q1, _⟩ := HBX.out.cells
  go_enter Try.func15, Try.ntmps15
  go_wp2_with fail
  rw [← hW1]
  clear hW1
  go_region_held_law (fun W' => W'.cell? ⟨b, 0, none⟩ = some (.slice (some ⟨gp, 0, none⟩) ps.length (ps.length + 3)) ∧ W'.cell? ⟨b, 1, none⟩ = some (.slice (some ⟨gl, 0, none⟩) L.length cl) ∧ W'.cell? ⟨w.heap.size, 0, none⟩ = some (.slice a1 ps.length c1) ∧ W'.cell? ⟨w.heap.size, 1, none⟩ = some (.slice a2 L.length c2)) (first | (refine ⟨?_, ?_, ?_, ?_⟩ <;> with_reducible assumption) | (go_keep; done))
    (first | (go_at_call 27; refine Calls.mono (HSAME.out _ (by first | exact Below.refl _ _ | exact (Below.refl _ _).drew)) ?_
              rintro e w2 ⟨rfl, hb2⟩
              have hb2' : Below W1.heap.size W1 w2 := by first | exact hb2 | exact ((Below.refl _ _).drew).trans hb2
              have HB2 : Hid (Below W1.heap.size W1 w2) := hb2'
              obtain ⟨k0', k1'⟩ := (HPB.out.here hb2').cells
              obtain ⟨q0', q1', _⟩ := (HBX.out.here hb2').cells
              clear hb2 hb2'))
  have HFR : Hid (Frm base b w.heap.size w2 (.slice a1 ps.length c1) (.slice a2 L.length c2) (.slice (some ⟨gp, 0, none⟩) ps.length (ps.length + 3)) (.slice (some ⟨gl, 0, none⟩) L.length cl) (.slice (some ⟨gp, 0, none⟩) (ps.length + 3) (ps.length + 3)) (.slice ak L.length ck) (.slice (some ⟨gl, 0, none⟩) (L.length + 2) cl) m1 m2 F) := by
    have h := HLR.out
    rw [HFL.out] at h
    exact Frm.here ⟨HPB.out, HBX.out, HKR.out, by rw [HFL.out]; exact h⟩ HB2.out
  have HPG2 : Hid (IRow base w2 gp (ps ++ [-9, -9, -9])) := HPG.out.here HB2.out
  have HP2 : Hid (PStay base gp w2 w2 ps 0 (ps ++ [-9, -9, -9])) := ⟨HPG.out.here HB2.out, by simp, fun _ _ => rfl, fun p hp => by
    rcases List.mem_append.1 hp with h | h
    · exact HIN.out.fits p h
    · simp at h; subst h; exact ⟨by decide, by decide⟩, Only.refl _ _⟩
  have HOK2 : Hid (∀ z ∈ F, z.Ok base w2) := fun z hz => (HOK.out z hz).here HB2.out
  have HM12 : Hid (KeyAt w2 m1 markK ∧ KeyAt w2 m2 markK) := ⟨HM1.out.here HB2.out, HM2.out.here HB2.out⟩
  have hbw : base ≤ W1.heap.size := Nat.le_trans (Nat.le_trans hlo hwb) HB1.out.size
  have HKS2 : Hid (KeysAt base w2 (.slice a2 L.length c2) L) := HKS.out.below (HB2.out.mono hbw)
  have HMID : Hid (Mid base w0.heap.size w w2) := Mid.of (HB1.out.trans (HB2.out.mono HB1.out.size)) (Nat.le_trans hlo hwb)
  clear HPB HBX HPG HKR HLR HOK HM1 HM2 HKS HSAME HB1 HB2 k0 k1 q0 q1 k0' k1' q0' q1'
  clear hbw
  go_wp2_with fail
  go_loopw [5, 6] (fun o i wx => o = .bool true ∧ ∃ (k : Nat) (R : List Int), k ≤ ps.length + 3 ∧ i = .int .i64 k ∧ PStay base gp w2 wx ps k R) (fun _ i _ => ps.length + 3 - (intOf i).toNat)
  case atStart => exact ⟨rfl, 0, _, by omega, rfl, HP2.out⟩
  case round =>
    clear HP2
    obtain ⟨rfl, k, R, hk, rfl, hps⟩ := hrel
    have HPS : Hid (PStay base gp w2 wr ps k R) := hps
    have hfr := HFR.out.keep (Only.keep (B := base) hps.only HPG2.out.row HPG2.out.lo) (by decide) (by decide) (by decide)
    obtain ⟨k0, k1⟩ := hfr.par.cells
    obtain ⟨_, _, q2, _⟩ := hfr.box.cells
    by_cases hlt : k < ps.length + 3
    · have hz : (k : Int) < (ps.length : Int) + 3 := by omega
      have hz2 : (k : Int) < ((ps.length + 3 : Nat) : Int) := by omega
      obtain ⟨p, hp⟩ : ∃ p, R[k]? = some p := ⟨R[k]'(by have := hps.len; omega), List.getElem?_eq_getElem _⟩
      obtain ⟨c0, f0⟩ := hps.row.cell k p hp
      by_cases hkp : k < ps.length
      · have hkz : (k : Int) < (ps.length : Int) := by omega
        have HST : Hid _ := hps.step (p + 7)
        clear hps hfr
        go_wp2_with fail
        go_region
        all_goals
          go_wp2
          exact ⟨⟨rfl, k + 1, _, by omega, by go_num, HST.out⟩, by simp [intOf]; omega⟩
      · have hkz : ¬ (k : Int) < (ps.length : Int) := by omega
        have hp9 : p = -9 := by
          have h := hps.rest k (Nat.le_refl _)
          rw [hp, marks_get ps k (by omega) hlt] at h
          cases h; rfl
        subst hp9
        have hst := hps.step (-9 + 7)
        rw [show wrap64 (-9 + 7) = -2 from by unfold wrap64; omega] at hst
        have HST : Hid _ := hst
        clear hps hfr hst
        go_wp2_with fail
        go_region
        all_goals
          go_wp2
          exact ⟨⟨rfl, k + 1, _, by omega, by go_num, HST.out⟩, by simp [intOf]; omega⟩
    · have hz : ¬ (k : Int) < (ps.length : Int) + 3 := by omega
      have hz2 : ¬ (k : Int) < ((ps.length + 3 : Nat) : Int) := by omega
      obtain rfl : k = ps.length + 3 := by omega
      obtain ⟨W3, rfl⟩ : ∃ W3, W3 = wr := ⟨_, rfl⟩
      have HF3 : Hid (Frm base b w.heap.size W3 (.slice a1 ps.length c1) (.slice a2 L.length c2) (.slice (some ⟨gp, 0, none⟩) ps.length (ps.length + 3)) (.slice (some ⟨gl, 0, none⟩) L.length cl) (.slice (some ⟨gp, 0, none⟩) (ps.length + 3) (ps.length + 3)) (.slice ak L.length ck) (.slice (some ⟨gl, 0, none⟩) (L.length + 2) cl) m1 m2 F) := hfr
      have HM3 : Hid (KeyAt W3 m1 markK ∧ KeyAt W3 m2 markK) := ⟨HM12.out.1.only hps.only HPG2.out.row, HM12.out.2.only hps.only HPG2.out.row⟩
      have hkp : Keep 3 base w2 W3 := Only.keep (B := base) hps.only HPG2.out.row HPG2.out.lo
      have HOK3 : Hid (∀ z ∈ F, z.Ok base W3) := fun z hz => ⟨(HOK2.out z hz).lo, hkp.typ _ _ _ _ (by decide) (HOK2.out z hz).row, (HOK2.out z hz).short⟩
      have HKS3 : Hid (KeysAt base W3 (.slice a2 L.length c2) L) := HKS2.out.below hkp.low
      have HMID3 : Hid (Mid base w0.heap.size w W3) := HMID.out.trans (hps.only.mid HPG2.out.lo HGP.out)
      have HPS3 : Hid (PStay base gp w2 W3 ps (ps.length + 3) R) := hps
      clear hps hfr hkp HPS HFR HM12 HOK2 HKS2 HMID HPG2 q2 k0
      obtain ⟨_, _, _, q3, q4⟩ := HF3.out.box.cells
      go_wp2_with fail
      clear k1
      go_loopw [5, 7] (fun o i wx => o = .bool true ∧ ∃ k : Nat, k ≤ 2 ∧ i = .int .i64 ((L.length + k : Nat) : Int) ∧ wx = W3) (fun _ i _ => L.length + 2 - (intOf i).toNat)
      case atStart => exact ⟨rfl, 0, by omega, rfl, rfl⟩
      case round =>
        obtain ⟨rfl, k, hk2, rfl, rfl⟩ := hrel
        by_cases hlt2 : k < 2
        · have hz1 : ((L.length + k : Nat) : Int) < (L.length : Int) + 2 := by omega
          have hz3 : ((L.length + k : Nat) : Int) < ((L.length + 2 : Nat) : Int) := by omega
          obtain ⟨m, hm, hmk⟩ : ∃ m, (F.map Lk.lv ++ [m1, m2])[L.length + k]? = some m ∧ KeyAt wr m markK := by
            rw [List.getElem?_append_right (by rw [List.length_map, HFL.out]; omega), List.length_map, HFL.out, Nat.add_sub_cancel_left]
            match k, hlt2 with
            | 0, _ => exact ⟨m1, rfl, HM3.out.1⟩
            | 1, _ => exact ⟨m2, rfl, HM3.out.2⟩
          obtain ⟨g', c', e1, hc⟩ := own_cell HF3.out.list hm
          simp only [Value.slice.injEq, Option.some.injEq, Addr.mk.injEq] at e1
          obtain ⟨⟨rfl, _⟩, h9, rfl⟩ := e1
          clear h9
          have v1 : Sem.run Try.prog (convert 27 9 m) wr = .ok (.string (strB markK)) wr := conv_key hmk
          have s1 : ((strB markK).toList == [109, 97, 114, 107]) = true := by rw [ByteArray.toList_eq]; simp [strB, markK]
          clear hm hmk
          generalize strB markK = S1 at v1 s1
          go_wp2
          exact ⟨⟨rfl, k + 1, by omega, by go_num, by first | trivial | rfl⟩, by simp [intOf]; omega⟩
        · have hz1 : ¬ ((L.length + k : Nat) : Int) < (L.length : Int) + 2 := by omega
          have hz3 : ¬ ((L.length + k : Nat) : Int) < ((L.length + 2 : Nat) : Int) := by omega
          obtain ⟨W4, rfl⟩ : ∃ W4, W4 = wr := ⟨_, rfl⟩
          go_wp2_with fail
          clear hk2
          go_loopw [5, 8] (fun o i wx => o = .bool true ∧ ∃ (k : Nat) (G : List Lr), k ≤ L.length ∧ i = .int .i64 k ∧ RowsAt base wx F k G ∧ Keep 5 base W4 wx ∧ Mid base w0.heap.size W4 wx) (fun _ i _ => L.length - (intOf i).toNat)
          case atStart => exact ⟨rfl, 0, _, by omega, rfl, RowsAt.start HOK3.out, Keep.refl _ _ _, ⟨Below.refl _ _, fun _ _ _ => rfl⟩⟩
          case round =>
            obtain ⟨rfl, i, G, hi, rfl, hro, hke, hmi⟩ := hrel
            obtain ⟨wa, rfl⟩ : ∃ wa, wa = wr := ⟨_, rfl⟩
            have HRO : Hid (RowsAt base wa F i G) := hro
            have HKE : Hid (Keep 5 base W4 wa) := hke
            have HMI : Hid (Mid base w0.heap.size W4 wa) := hmi
            have hfr := HF3.out.keep hke (by decide) (by decide) (by decide)
            have HFR : Hid (Frm base b w.heap.size wa (.slice a1 ps.length c1) (.slice a2 L.length c2) (.slice (some ⟨gp, 0, none⟩) ps.length (ps.length + 3)) (.slice (some ⟨gl, 0, none⟩) L.length cl) (.slice (some ⟨gp, 0, none⟩) (ps.length + 3) (ps.length + 3)) (.slice ak L.length ck) (.slice (some ⟨gl, 0, none⟩) (L.length + 2) cl) m1 m2 F) := hfr
            clear q3 q4
            obtain ⟨_, _, _, q3, _⟩ := hfr.box.cells
            clear hro hke hmi hfr
            by_cases hlt3 : i < L.length
            · have hz4 : (i : Int) < (L.length : Int) := by omega
              obtain ⟨e, he⟩ : ∃ e, L[i]? = some e := ⟨_, List.getElem?_eq_getElem hlt3⟩
              obtain ⟨y, hy⟩ : ∃ y, G[i]? = some y := ⟨G[i]'(by have := congrArg List.length HRO.out.is; rw [List.length_map, HFL.out] at this; omega), List.getElem?_eq_getElem _⟩
              have hyF : F[i]? = some y.z := by rw [← HRO.out.is, List.getElem?_map, hy]; rfl
              have hek : e.k = y.z.k := by
                have := congrArg (fun l => l[i]?) HFK.out
                simp only [List.getElem?_map, hyF, Option.map_some] at this
                rw [keysOf_get he] at this
                first | exact Option.some.inj this | exact (Option.some.inj this).symm
              have HYG : Hid (G[i]? = some y) := hy
              obtain ⟨gk, ck', e1, hkc⟩ := own_cell (i := i) HFR.out.keys (u := y.z.kv) (by rw [List.getElem?_map, hyF]; rfl)
              simp only [Value.slice.injEq] at e1
              obtain ⟨rfl, h9, rfl⟩ := e1
              clear h9
              obtain ⟨g, off, c3, e1, hgB, _⟩ := HKS3.out.cellB i e he
              cases e1
              obtain ⟨ae, ce, e2⟩ := (HKS3.out.ok e (List.mem_of_getElem? he)).form
              rw [hek] at e2
              have HKC : Hid (∀ W, Below base W4 W → W.cell? ⟨g, off + i, none⟩ = some (.slice ae y.z.k.length ce)) := fun W hW => by
                obtain ⟨g', o', c', e1, _, hc⟩ := (HKS3.out.below hW).cellB i e he
                cases e1
                rw [hc, e2]
              obtain ⟨hyb, hyr, hyl, hys⟩ := HRO.out.ok y (List.mem_of_getElem? hy)
              have HYB : Hid (base ≤ y.z.g ∧ y.z.g < w0.heap.size) := ⟨hyb, HGS.out y.z (List.mem_of_getElem? hyF)⟩
              have HYR : Hid (BRow wa y.z.g y.r) := hyr
              have HB0 : Hid (BStay y.z.g wa wa y.z.k 0 y.r) := ⟨hyr, hyl, fun k _ => by rw [HRO.out.rest i y (Nat.le_refl _) hy], Only.refl _ _⟩
              clear he hy hyF hek e2 hyr hyl hyb hkc
              go_wp2_with fail
              clear q3
              go_loopw [5, 9] (fun o jv wx => o = .bool true ∧ ∃ (j : Nat) (R : Key), j ≤ y.z.k.length + 3 ∧ jv = .int .i64 j ∧ BStay y.z.g wa wx y.z.k j R) (fun _ jv _ => y.z.k.length + 3 - (intOf jv).toNat)
              case atStart => exact ⟨rfl, 0, _, by omega, rfl, HB0.out⟩
              case round =>
                obtain ⟨rfl, j, R, hj, rfl, hbs⟩ := hrel
                have HBS : Hid (BStay y.z.g wa wr y.z.k j R) := hbs
                have hku : Keep 5 base wa wr := Only.keep hbs.only HYR.out.row HYB.out.1
                have hfr := HFR.out.keep hku (by decide) (by decide) (by decide)
                obtain ⟨_, k1⟩ := hfr.par.cells
                obtain ⟨_, _, _, q3, _⟩ := hfr.box.cells
                obtain ⟨gk', ck', e1, hkc⟩ := own_cell (i := i) hfr.keys (u := y.z.kv) (by rw [← HRO.out.is, List.getElem?_map, List.getElem?_map, HYG.out]; rfl)
                simp only [Value.slice.injEq, Option.some.injEq, Addr.mk.injEq] at e1
                obtain ⟨⟨rfl, _⟩, h9, rfl⟩ := e1
                clear h9
                have hkey := HKC.out wr (HKE.out.low.trans hku.low)
                rw [show y.z.kv = .slice (some ⟨y.z.g, 0, none⟩) (y.z.k.length + 3) (y.z.k.length + 3) from rfl] at hkc
                clear hfr
                by_cases hlt4 : j < y.z.k.length + 3
                · have hz5 : (j : Int) < (y.z.k.length : Int) + 3 := by omega
                  have hz6 : (j : Int) < ((y.z.k.length + 3 : Nat) : Int) := by omega
                  obtain ⟨c, hc⟩ : ∃ c, R[j]? = some c := ⟨R[j]'(by have := hbs.len; omega), List.getElem?_eq_getElem _⟩
                  obtain ⟨c0, f0⟩ := hbs.row.cell j c hc
                  have HST : Hid _ := hbs.step c
                  have HUK : Hid (Keep 5 base wa wr) := hku
                  by_cases hjz : j < y.z.k.length
                  · have hz7 : (j : Int) < (y.z.k.length : Int) := by omega
                    clear hbs hku hc
                    go_wp2_with fail
                    go_region
                    all_goals
                      go_wp2
                      exact ⟨⟨rfl, j + 1, _, by omega, by go_num, HST.out⟩, by simp [intOf]; omega⟩
                  · have hz7 : ¬ (j : Int) < (y.z.k.length : Int) := by omega
                    have hc167 : c = 167 := by
                      have h := hbs.rest j (Nat.le_refl _)
                      rw [hc, mk3_get _ j (by omega) hlt4] at h
                      cases h; rfl
                    subst hc167
                    have h167 : wr.cell? ⟨y.z.g, j, none⟩ = some (.int .u8 167) := c0
                    have hst := hbs.step 167
                    rw [show bits BinOp.xor IntKind.u8 ((167 : UInt8).toNat : Int) 21 = 178 from by decide +kernel] at hst
                    have HS7 : Hid _ := hst
                    clear hbs hku hc hst c0 HST
                    go_wp2_with fail
                    go_region
                    all_goals
                      go_wp2
                      exact ⟨⟨rfl, j + 1, _, by omega, by go_num, HS7.out⟩, by simp [intOf]; omega⟩
                · have hz5 : ¬ (j : Int) < (y.z.k.length : Int) + 3 := by omega
                  have hz6 : ¬ (j : Int) < ((y.z.k.length + 3 : Nat) : Int) := by omega
                  obtain rfl : j = y.z.k.length + 3 := by omega
                  have HNX : Hid _ := HRO.out.step HND.out HYG.out hbs.only hbs.row hbs.len
                  have HKN : Hid (Keep 5 base W4 wr) := HKE.out.trans hku
                  have HMN : Hid (Mid base w0.heap.size W4 wr) := HMI.out.trans (hbs.only.mid HYB.out.1 HYB.out.2)
                  clear hbs hku
                  go_wp2
                  exact ⟨⟨rfl, i + 1, _, by omega, by go_num, HNX.out, HKN.out, HMN.out⟩, by simp [intOf]; omega⟩
            · have hz4 : ¬ (i : Int) < (L.length : Int) := by omega
              go_wp2
              go_ret
              refine ⟨rfl, HMID3.out.trans HMI.out, R.take ps.length, _, ⟨_, _, rfl, ?_, HRO.out.narrow (HRO.out.keys (m1 := m1) (m2 := m2) (by have := HFR.out.list; rw [HFL.out] at this ⊢; exact this) (by rw [HFL.out]; exact HKS3.out.short)) HGL.out HGS.out⟩, ?_, HRO.out.lens HFK.out, _, _, ⟨rfl, rfl⟩, HFR.out.box.cells.1, by rw [HFL.out]; exact HFR.out.box.cells.2.1⟩
              · have hr := HPS3.out.row.keepT HKE.out (by decide)
                have hl : (R.take ps.length).length = ps.length := by rw [List.length_take, HPS3.out.len]; omega
                have h1 := IRow.ints (ps := R.take ps.length) (qs := R.drop ps.length) (by rw [List.take_append_drop]; exact hr) (by rw [hl]; exact HIN.out.short) (fun p hp => HPS3.out.fits p (List.mem_of_mem_take hp)) (ps.length + 3) (by rw [hl]; omega)
                rw [hl] at h1
                exact ⟨h1.row.narrow HGP.out, h1.short, h1.fits⟩
              · rw [List.length_take, HPS3.out.len]; omega
theorem stays_any {base b : Nat} {w0 w : World} {vq v : Value} {ps : List Int} {L : List Kc} {F : List Lk} (hx : LoanAt base w0 b vq ps F) (hb : Below w0.heap.size w0 w) (hlo : base ≤ w0.heap.size) (hk : F.map Lk.k = keysOf L) (hL : KidsAt base w v ps L) (hpl : ps.length ≤ 2147483647) (hll : L.length ≤ 2147483647) :
    Calls Try.prog 15 #[.pointer (some ⟨b, 0, none⟩), v] w fun e w' => e = .returned (.bool true) ∧ Mid base w0.heap.size w w' ∧ ∃ ps' L', KidsAt w'.heap.size w' vq ps' L' ∧ ps'.length = ps.length ∧ L'.map (fun e => e.k.length) = L.map (fun e => e.k.length) ∧ ∃ x y, vq = .agg #[x, y] ∧ w'.cell? ⟨b, 0, none⟩ = some x ∧ w'.cell? ⟨b, 1, none⟩ = some y := by
  refine (stays_top hx hb hlo hk hL hpl hll).mono ?_
  rintro e w' ⟨h1, h2, ps', L', h3, h4⟩
  exact ⟨h1, h2, ps', L', h3.mono (Nat.le_trans hb.size h2.low.size), h4⟩
/-- stays, where what was lent lies below a border, whatever has changed besides. -/
theorem stays_far {base top b : Nat} {w0 w : World} {vq v : Value} {ps : List Int} {L : List Kc} {F : List Lk} (hx : LoanAt base w0 b vq ps F) (ht : top = w0.heap.size) (hs : ∀ k, base ≤ k → k < top → w.heap[k]? = w0.heap[k]?) (hw : top ≤ w.heap.size) (hlo : base ≤ top) (hk : F.map Lk.k = keysOf L) (hL : KidsAt base w v ps L) (hpl : ps.length ≤ 2147483647) (hll : L.length ≤ 2147483647) :
    Calls Try.prog 15 #[.pointer (some ⟨b, 0, none⟩), v] w fun e w' => e = .returned (.bool true) ∧ Mid base top w w' ∧ ∃ ps' L', KidsAt top w' vq ps' L' ∧ ps'.length = ps.length ∧ L'.map (fun e => e.k.length) = L.map (fun e => e.k.length) ∧ ∃ x y, vq = .agg #[x, y] ∧ w'.cell? ⟨b, 0, none⟩ = some x ∧ w'.cell? ⟨b, 1, none⟩ = some y := by
  have h1 : LoanAt base (upto w top) b vq ps F := hx.move fun k hk hl => by rw [upto_at w (by omega)]; exact hs k hk (by omega)
  have h2 := upto_below w hw
  have e := upto_size w hw
  have h3 := stays_top h1 (by rw [e]; exact h2) (by rw [e]; exact hlo) hk hL hpl hll
  rw [e] at h3
  exact h3
end Go.Proofs.Ytaehchijeinloaa
