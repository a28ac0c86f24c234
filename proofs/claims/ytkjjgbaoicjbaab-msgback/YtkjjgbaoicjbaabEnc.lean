/- tailOf; Encode. -/
import Derived.Test.YtkjjgbaoicjbaabNums
namespace Go.Proofs.Ytkjjgbaoicjbaab
open Go.RowKit

def tailV (x : Mt) : Value := if x.m.kd = 1 then x.v3 else if x.m.kd = 3 then x.v2 else .slice none 0 0
theorem tailV_in {B : Nat} {w : World} {x : Mt} (h : x.Ok B w) : KeyIn B w (tailV x) (tailM x.m) := by
  unfold tailV tailM
  split
  · exact h.va
  · split
    · exact h.hi
    · exact ⟨⟨none, 0, rfl, fun j c hj => by simp at hj, Nat.le_refl _, fun _ => rfl⟩, by decide⟩

set_option maxHeartbeats 800000 in
set_option maxRecDepth 100000 in
theorem tailOf_any {w : World} {x : Mt} (h : x.Ok w.heap.size w) :
    Calls Try.prog 22 #[x.val] w fun r w' => r = .returned (tailV x) ∧ Below w.heap.size w w' := by
  obtain ⟨v1, v2, v3, st, kd, lo, hi, va⟩ := x
  obtain ⟨a1, c1, e1⟩ := h.lo.form
  obtain ⟨a2, c2, e2⟩ := h.hi.form
  obtain ⟨a3, c3, e3⟩ := h.va.form
  simp only at e1 e2 e3
  subst e1 e2 e3
  obtain ⟨W, hW⟩ : ∃ W, W = w.alloc (.cells #[.int .u64 (st : Int), .int .i64 kd, .slice a1 lo.length c1, .slice a2 hi.length c2, .slice a3 va.length c3] 38) := ⟨_, rfl⟩
  have HBW : Hid (Below w.heap.size w W) := by rw [hW]; exact below_new _ _
  have HDO := deedOf_any (h.here HBW.out)
  unfold Mt.val at *
  simp only at HDO ⊢
  have t1 := as_pp
  have t2 := as_dp
  have t3 := as_dc
  have t4 := as_cp
  have t5 := as_cc
  have t6 := as_ip
  have t7 := as_ic
  clear h
  go_enter Try.func22, Try.ntmps22
  go_wp2_with fail
  rw [← hW]
  clear hW
  refine HDO.mono ?_
  rintro r w1 ⟨rfl, hb1⟩
  have HB1 : Hid (Below w.heap.size w w1) := HBW.out.trans (hb1.mono HBW.out.size)
  clear hb1 HDO
  unfold deedV
  simp only
  by_cases k1 : kd = 1
  · subst k1
    have HR : Hid (tailV ⟨.slice a1 lo.length c1, .slice a2 hi.length c2, .slice a3 va.length c3, ⟨st, 1, lo, hi, va⟩⟩ = .slice a3 va.length c3) := by unfold Hid tailV; rw [if_pos rfl]
    have HA : Hid (Below w.heap.size w (w1.alloc (.cells #[.slice a1 lo.length c1, .slice a3 va.length c3] 76))) := HB1.out.alloc HB1.out.size _
    go_wp2
    go_ret
    exact ⟨by rw [HR.out]; rfl, HA.out⟩
  · rw [if_neg k1]
    by_cases k2 : kd = 2
    · subst k2
      have HR : Hid (tailV ⟨.slice a1 lo.length c1, .slice a2 hi.length c2, .slice a3 va.length c3, ⟨st, 2, lo, hi, va⟩⟩ = .slice none 0 0) := by unfold Hid tailV; rw [if_neg (by simp), if_neg (by simp)]
      clear k1
      go_wp2
      go_ret
      exact ⟨by rw [HR.out]; rfl, HB1.out⟩
    · rw [if_neg k2]
      by_cases k3 : kd = 3
      · subst k3
        have HR : Hid (tailV ⟨.slice a1 lo.length c1, .slice a2 hi.length c2, .slice a3 va.length c3, ⟨st, 3, lo, hi, va⟩⟩ = .slice a2 hi.length c2) := by unfold Hid tailV; rw [if_neg (by simp), if_pos rfl]
        have HA : Hid (Below w.heap.size w (w1.alloc (.cells #[.slice a1 lo.length c1, .slice a2 hi.length c2] 80))) := HB1.out.alloc HB1.out.size _
        clear k1 k2
        go_wp2
        go_ret
        exact ⟨by rw [HR.out]; rfl, HA.out⟩
      · rw [if_neg k3]
        have HR : Hid (tailV ⟨.slice a1 lo.length c1, .slice a2 hi.length c2, .slice a3 va.length c3, ⟨st, kd, lo, hi, va⟩⟩ = .slice none 0 0) := by unfold Hid tailV; rw [if_neg k1, if_neg k3]
        clear k1 k2 k3
        go_wp2
        go_ret
        exact ⟨by rw [HR.out]; rfl, HB1.out⟩

theorem layL_take {M : List Ms} {k : Nat} {m : Ms} (h : M[k]? = some m) : layL (M.take (k + 1)) = layL (M.take k) ++ lay1 m := by
  rw [List.take_add_one, h]; simp [layL]
theorem layL_length {z : Nat} {M : List Ms} (h : ∀ m ∈ M, m.may z = true) : (layL M).length = sizesM M := by
  induction M with
  | nil => rfl
  | cons m r ih => rw [layL_cons, sizesM_cons, List.length_append, lay1_length, may_size (h m (List.mem_cons_self ..)), ih fun x hx => h x (List.mem_cons_of_mem _ hx)]
/-- A block that holds a message. -/
structure MBox (w : World) (b : Nat) (e : Mt) : Prop where
  row : w.heap[b]? = some (.cells #[.int .u64 (e.m.st : Int), .int .i64 e.m.kd, e.v1, e.v2, e.v3] 38 (0, 0))
theorem MBox.lt {w : World} {b : Nat} {e : Mt} (h : MBox w b e) : b < w.heap.size := (Array.getElem?_eq_some_iff.1 h.row).1
theorem MBox.here {w w' : World} {b : Nat} {e : Mt} (h : MBox w b e) (hb : Below w.heap.size w w') : MBox w' b e := ⟨by rw [hb.block b h.lt]; exact h.row⟩
theorem MBox.keeps {B : Nat} {w w' : World} {b : Nat} {e : Mt} (h : MBox w b e) (hk : Keeps B w w') : MBox w' b e := ⟨hk.typ _ _ _ _ (by decide) h.row⟩
theorem MBox.cells {w : World} {b : Nat} {e : Mt} (h : MBox w b e) : w.cell? ⟨b, 0, none⟩ = some (.int .u64 (e.m.st : Int)) ∧ w.cell? ⟨b, 1, none⟩ = some (.int .i64 e.m.kd) ∧ w.cell? ⟨b, 2, none⟩ = some e.v1 ∧ w.cell? ⟨b, 3, none⟩ = some e.v2 ∧ w.cell? ⟨b, 4, none⟩ = some e.v3 :=
  ⟨by rw [row_cell h.row]; rfl, by rw [row_cell h.row]; rfl, by rw [row_cell h.row]; rfl, by rw [row_cell h.row]; rfl, by rw [row_cell h.row]; rfl⟩

set_option maxHeartbeats 3200000 in
set_option maxRecDepth 100000 in
theorem encode_any {w : World} {v : Value} {L : List Mt} {z : Int} (hL : MsgsAt w.heap.size w v L) (hs : sizesM (msOf L) ≤ 1099511627776) :
    Calls Try.prog 7 #[.int .i64 z, v] w fun r w' => ∃ v', r = .returned (.tuple #[v', .int .i64 (checkM z (msOf L) : Nat)]) ∧ NewKey w.heap.size w' v' (if checkM z (msOf L) = 0 then by4 L.length ++ layL (msOf L) else []) ∧ Below w.heap.size w w' := by
  obtain ⟨i0, hi0, hz0, hz1, hz2⟩ := info5'
  have hsh := hL.short
  obtain ⟨a, c, rfl⟩ := hL.form
  have HL : Hid (MsgsAt w.heap.size w (.slice a L.length c) L) := hL
  have HCK := check_any (z := z) hL
  clear hL
  by_cases hc : checkM z (msOf L) = 0
  · have hc' := checkM_zero.1 hc
    have HZ : Hid (z.toNat ≤ 4096) := by have := sized_le hc'.1; rw [Hid]; omega
    have HM : Hid (∀ m ∈ msOf L, m.may z.toNat = true) := fun m hm => (hc'.2.1 m hm).1
    rw [hc] at HCK ⊢
    simp only [if_true]
    have HLN : Hid (∀ k, (by4 L.length ++ layL ((msOf L).take k)).length ≤ 1099511627780) := fun k => by
      have h1 := layL_length (z := z.toNat) (M := (msOf L).take k) (fun m hm => HM.out m (List.mem_of_mem_take hm))
      have h2 := sizesM_sub (List.take_sublist k (msOf L))
      rw [List.length_append, h1, show (by4 L.length).length = 4 from rfl]
      omega
    clear hc hc'
    go_enter Try.func7, Try.ntmps7
    go_wp2_with fail
    refine HCK.mono ?_
    rintro r w1 ⟨rfl, hb1⟩
    have HB1 : Hid (Below w.heap.size w w1) := hb1
    have HBY := bytesG_any (HL.out.here hb1) (by omega)
    obtain ⟨N, hN⟩ : ∃ N, N = 4 + sizesM (msOf L) := ⟨_, rfl⟩
    rw [← hN] at HBY
    have hNs : N ≤ 1099511627780 := by omega
    clear hb1 HCK hN
    go_wp2_with fail
    refine HBY.mono ?_
    rintro r w2 ⟨rfl, hb2⟩
    have HB2 : Hid (Below w.heap.size w w2) := HB1.out.trans (hb2.mono HB1.out.size)
    clear hb2 HBY
    go_wp2_with (at_make; refine wpList_make_own _ rfl _ _ 23 rfl w.heap.size 5 i0 (.int .u8 0) 1 Try.underlying23 hi0 hz0 hz1 .i64 .i64 (N : Int) N rfl rfl rfl (by rw [hz2]; omega) (by unfold maxLen; omega) HB2.out.size ?_
                 intro w3 ho3 hg3
                 have HV3 : Hid (NewKey w.heap.size w3 (.slice (some ⟨w2.heap.size, 0, none⟩) 0 N) []) := ⟨ho3, by decide⟩
                 have HB3 : Hid (Below w.heap.size w w3) := HB2.out.grown hg3 HB2.out.size (fun k e => by cases e)
                 clear ho3 hg3)
    refine (put4_any (n := L.length) HV3.out (by simp) (by omega) HB3.out.size).mono ?_
    rintro r w4 ⟨v4, rfl, hv4, hk4⟩
    have HV4 : Hid (NewKey w.heap.size w4 v4 (by4 L.length)) := hv4
    have HB4 : Hid (Below w.heap.size w w4) := HB3.out.trans hk4.low
    clear hv4 hk4 HB1 HB2 HB3 HV3
    go_wp2_with fail
    go_loopw [7, 27] (fun b i wx => ∃ k : Nat, k ≤ L.length ∧ i = .int .i64 k ∧ NewKey w.heap.size wx b (by4 L.length ++ layL ((msOf L).take k)) ∧ Below w.heap.size w wx) (fun _ i _ => L.length - (intOf i).toNat)
    case atStart => exact ⟨0, by omega, rfl, by simp only [List.take_zero, layL, List.flatMap_nil, List.append_nil]; exact HV4.out, HB4.out⟩
    case round =>
      obtain ⟨k, hk, rfl, hv, hbe⟩ := hrel
      have HV : Hid (NewKey w.heap.size wr u7 (by4 L.length ++ layL ((msOf L).take k))) := hv
      have HBE : Hid (Below w.heap.size w wr) := hbe
      clear hv hbe
      by_cases hlt : k < L.length
      · have hzl : (k : Int) < (L.length : Int) := by omega
        obtain ⟨e, he⟩ : ∃ e, L[k]? = some e := ⟨_, List.getElem?_eq_getElem hlt⟩
        have hL := HL.out.here HBE.out
        obtain ⟨g, off, c', e1, k0, k1, k2, k3, k4⟩ := hL.cells k e he
        cases e1
        have hok := hL.ok e (List.mem_of_getElem? he)
        have hok0 := HL.out.ok e (List.mem_of_getElem? he)
        have hmay := HM.out e.m (List.mem_of_getElem? (msOf_get he))
        have hkd := may_kd hmay
        obtain ⟨hs1, hs2⟩ := may_short HZ.out hmay
        have hst := hok.st
        have HST : Hid (layL ((msOf L).take (k + 1)) = layL ((msOf L).take k) ++ lay1 e.m) := layL_take (msOf_get he)
        have HLk : Hid ((by4 L.length ++ layL ((msOf L).take k)).length ≤ 1099511627780) := HLN.out k
        have HTI := tailV_in hok0
        obtain ⟨at', ct, hta⟩ := HTI.form
        have HTA : Hid (tailV e = .slice at' (tailM e.m).length ct) := hta
        have HTK : Hid (KeyIn w.heap.size w (.slice at' (tailM e.m).length ct) (tailM e.m)) := by rw [← hta]; exact HTI
        have HLO : Hid (KeyIn w.heap.size w e.v1 e.m.lo) := hok0.lo
        have HOK : Hid (e.Ok wr.heap.size wr) := hok
        obtain ⟨a1, c1, f1⟩ := hok.lo.form
        obtain ⟨a2, c2, f2⟩ := hok.hi.form
        obtain ⟨a3, c3, f3⟩ := hok.va.form
        clear he hL hok hok0 hmay HTI hta
        obtain ⟨v1, v2, v3, m⟩ := e
        simp only at f1 f2 f3 k0 k1 k2 k3 k4 HST HTA HTK HLO hkd hs1 hs2 hst
        subst f1 f2 f3
        obtain ⟨W, hW⟩ : ∃ W, W = wr.alloc (.cells #[.int .u64 (m.st : Int), .int .i64 m.kd, .slice a1 m.lo.length c1, .slice a2 m.hi.length c2, .slice a3 m.va.length c3] 38) := ⟨_, rfl⟩
        have HWB : Hid (Below wr.heap.size wr W) := by rw [hW]; exact below_new _ _
        have HBX : Hid (MBox W wr.heap.size ⟨.slice a1 m.lo.length c1, .slice a2 m.hi.length c2, .slice a3 m.va.length c3, m⟩) := by rw [hW]; exact ⟨heap_alloc_last _ _⟩
        have HTO := tailOf_any (HOK.out.here HWB.out)
        rw [HTA.out] at HTO
        unfold Mt.val at HTO
        simp only at HTO
        go_wp2_with fail
        rw [← hW]
        clear hW
        refine HTO.mono ?_
        rintro r w5 ⟨rfl, hb5⟩
        have HB5 : Hid (Below w.heap.size w w5) := (HBE.out.trans (HWB.out.mono HBE.out.size)).trans (hb5.mono (Nat.le_trans HBE.out.size HWB.out.size))
        have HX5 : Hid (MBox w5 wr.heap.size ⟨.slice a1 m.lo.length c1, .slice a2 m.hi.length c2, .slice a3 m.va.length c3, m⟩) := HBX.out.here hb5
        have HV5 : Hid (NewKey w.heap.size w5 u7 (by4 L.length ++ layL ((msOf L).take k))) := (HV.out.here HWB.out).here hb5
        clear hb5 HTO k0 k1 k2 k3 k4
        obtain ⟨x0, x1, x2, x3, x4⟩ := HX5.out.cells
        simp only at x0 x1 x2 x3 x4
        generalize hT0 : by4 L.length ++ layL ((msOf L).take k) = T0 at *
        go_wp2_with fail
        refine (put8_any (n := m.st) HV5.out (by have := HLk.out; omega) hst HB5.out.size).mono ?_
        rintro r w6 ⟨v6, rfl, hv6, hk6⟩
        have HV6 : Hid (NewKey w.heap.size w6 v6 (T0 ++ by8 m.st)) := hv6
        have HB6 : Hid (Below w.heap.size w w6) := HB5.out.trans hk6.low
        have HX6 : Hid (MBox w6 wr.heap.size ⟨.slice a1 m.lo.length c1, .slice a2 m.hi.length c2, .slice a3 m.va.length c3, m⟩) := HX5.out.keeps hk6
        obtain ⟨y0, y1, y2, y3, y4⟩ := HX6.out.cells
        obtain ⟨kn, hkn⟩ : ∃ kn : Nat, m.kd = (kn : Int) := ⟨m.kd.toNat, by omega⟩
        have hkn3 : kn ≤ 3 := by omega
        have HKN : Hid (m.kd.toNat = kn) := by rw [Hid, hkn]; rfl
        simp only at y0 y1 y2 y3 y4
        rw [hkn] at y1
        clear hv6 hk6 x0 x1 x2 x3 x4 hkd
        go_wp2_with fail
        refine (put1_any (n := kn) HV6.out (by have := HLk.out; rw [List.length_append, show (by8 m.st).length = 8 from rfl]; omega) (by omega) HB6.out.size).mono ?_
        rintro r w7 ⟨v7, rfl, hv7, hk7⟩
        have HV7 : Hid (NewKey w.heap.size w7 v7 (T0 ++ by8 m.st ++ by1 kn)) := hv7
        have HB7 : Hid (Below w.heap.size w w7) := HB6.out.trans hk7.low
        have HX7 : Hid (MBox w7 wr.heap.size ⟨.slice a1 m.lo.length c1, .slice a2 m.hi.length c2, .slice a3 m.va.length c3, m⟩) := HX6.out.keeps hk7
        obtain ⟨x0, x1, x2, x3, x4⟩ := HX7.out.cells
        simp only at x0 x1 x2 x3 x4
        clear hv7 hk7 y0 y1 y2 y3 y4
        go_wp2_with fail
        refine (put2_any (n := m.lo.length) HV7.out (by have := HLk.out; simp only [List.length_append, show (by8 m.st).length = 8 from rfl, show (by1 kn).length = 1 from rfl]; omega) (by omega) HB7.out.size).mono ?_
        rintro r w9 ⟨v9, rfl, hv9, hk9⟩
        have HV9 : Hid (NewKey w.heap.size w9 v9 (T0 ++ by8 m.st ++ by1 kn ++ by2 m.lo.length)) := hv9
        have HB9 : Hid (Below w.heap.size w w9) := HB7.out.trans hk9.low
        have HX9 : Hid (MBox w9 wr.heap.size ⟨.slice a1 m.lo.length c1, .slice a2 m.hi.length c2, .slice a3 m.va.length c3, m⟩) := HX7.out.keeps hk9
        obtain ⟨y0, y1, y2, y3, y4⟩ := HX9.out.cells
        simp only at y0 y1 y2 y3 y4
        clear hv9 hk9 x0 x1 x2 x3 x4
        go_wp2_with fail
        refine (put2_any (n := (tailM m).length) HV9.out (by have := HLk.out; simp only [List.length_append, show (by8 m.st).length = 8 from rfl, show (by1 kn).length = 1 from rfl, show (by2 m.lo.length).length = 2 from rfl]; omega) (by omega) HB9.out.size).mono ?_
        rintro r w10 ⟨v10, rfl, hv10, hk10⟩
        have HV10 : Hid (NewKey w.heap.size w10 v10 (T0 ++ by8 m.st ++ by1 kn ++ by2 m.lo.length ++ by2 (tailM m).length)) := hv10
        have HB10 : Hid (Below w.heap.size w w10) := HB9.out.trans hk10.low
        have HX10 : Hid (MBox w10 wr.heap.size ⟨.slice a1 m.lo.length c1, .slice a2 m.hi.length c2, .slice a3 m.va.length c3, m⟩) := HX9.out.keeps hk10
        obtain ⟨x0, x1, x2, x3, x4⟩ := HX10.out.cells
        simp only at x0 x1 x2 x3 x4
        have HLl : Hid ((T0 ++ by8 m.st ++ by1 kn ++ by2 m.lo.length ++ by2 (tailM m).length).length ≤ 1099511627800) := by
          have := HLk.out; simp only [Hid, List.length_append, show (by8 m.st).length = 8 from rfl, show (by1 kn).length = 1 from rfl, show (by2 m.lo.length).length = 2 from rfl, show (by2 (tailM m).length).length = 2 from rfl]; omega
        clear hv10 hk10 y0 y1 y2 y3 y4
        generalize hT1 : T0 ++ by8 m.st ++ by1 kn ++ by2 m.lo.length ++ by2 (tailM m).length = T1 at *
        go_wp2_with (first
          | (at_builtin; refine wpList_append_key rfl _ _ rfl w.heap.size v10 _ _ m.lo rfl HV10.out rfl ((HLO.out.below HB10.out).at HB10.out.size) (by have := HLl.out; omega) HB10.out.size ?_
             intro v11 w11 hv11 hk11
             have HV11 : Hid (NewKey w.heap.size w11 v11 (T1 ++ m.lo)) := hv11
             have HB11 : Hid (Below w.heap.size w w11) := HB10.out.trans hk11.low
             clear hv11 hk11)
          | (at_builtin; refine wpList_append_key rfl _ _ rfl w.heap.size v11 _ _ (tailM m) rfl HV11.out rfl ((HTK.out.below HB11.out).at HB11.out.size) (by have := HLl.out; rw [List.length_append]; omega) HB11.out.size ?_
             intro v12 w12 hv12 hk12
             have HV12 : Hid (NewKey w.heap.size w12 v12 (T1 ++ m.lo ++ tailM m)) := hv12
             have HB12 : Hid (Below w.heap.size w w12) := HB11.out.trans hk12.low
             clear hv12 hk12))
        refine ⟨⟨k + 1, by omega, by go_num, ?_, HB12.out⟩, by simp [intOf]; omega⟩
        have e : T1 ++ m.lo ++ tailM m = by4 L.length ++ layL ((msOf L).take (k + 1)) := by
          rw [HST.out, ← List.append_assoc, hT0, ← hT1, lay1, by8_eight _ hst, by2_two, by2_two, HKN.out]
          simp only [List.append_assoc, by1]
        rw [← e]
        exact HV12.out
      · have hzl : ¬ (k : Int) < (L.length : Int) := by omega
        have HR : Hid (NewKey w.heap.size wr u7 (by4 L.length ++ layL (msOf L))) := by
          have := HV.out
          rw [List.take_of_length_le (by rw [msOf_length]; omega)] at this
          exact this
        clear HV
        go_wp2
        go_ret2
        exact ⟨_, rfl, HR.out, HBE.out⟩
  · have hcz : ((checkM z (msOf L) : Int) != 0) = true := by simp; omega
    rw [if_neg hc]
    go_enter Try.func7, Try.ntmps7
    go_wp2_with fail
    refine HCK.mono ?_
    rintro r w1 ⟨rfl, hb1⟩
    have HB1 : Hid (Below w.heap.size w w1) := hb1
    clear hb1 HCK
    go_wp2
    go_ret2
    exact ⟨_, rfl, NewKey.nil _ _, HB1.out⟩
end Go.Proofs.Ytkjjgbaoicjbaab
