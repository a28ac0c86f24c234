/- Encode. -/
import Derived.Test.YtgifnaahahfhbaaNum
namespace Go.Proofs.Ytgifnaahahfhbaa
open Go.RowKit

/-- A block that holds an entry. -/
structure EBox (w : World) (b : Nat) (x y : Value) : Prop where
  row : w.heap[b]? = some (.cells #[x, y] 47 (0, 0))
theorem EBox.lt {w : World} {b : Nat} {x y : Value} (h : EBox w b x y) : b < w.heap.size := (Array.getElem?_eq_some_iff.1 h.row).1
theorem EBox.cells {w : World} {b : Nat} {x y : Value} (h : EBox w b x y) : w.cell? ⟨b, 0, none⟩ = some x ∧ w.cell? ⟨b, 1, none⟩ = some y :=
  ⟨by rw [row_cell h.row]; rfl, by rw [row_cell h.row]; rfl⟩
theorem EBox.open {w : World} {b : Nat} {x y : Value} (h : EBox w b x y) : w.frozen? ⟨b, 0, none⟩ = false ∧ w.frozen? ⟨b, 1, none⟩ = false :=
  ⟨row_frozen h.row _, row_frozen h.row _⟩
theorem EBox.here {w w' : World} {b : Nat} {x y : Value} (h : EBox w b x y) (hb : Below w.heap.size w w') : EBox w' b x y := ⟨by rw [hb.block b h.lt]; exact h.row⟩
theorem EBox.new (w : World) (x y : Value) : EBox (w.alloc (.cells #[x, y] 47)) w.heap.size x y := ⟨heap_alloc_last _ _⟩
theorem EBox.keeps {B : Nat} {w w' : World} {b : Nat} {x y : Value} (h : EBox w b x y) (hk : Keeps B w w') : EBox w' b x y := ⟨hk.typ _ _ _ _ (by decide) h.row⟩
theorem EBox.draws {w : World} {b : Nat} {x y : Value} (h : EBox w b x y) (n : Nat) : EBox (w.drewN n) b x y := ⟨h.row⟩
theorem NewKey.draws {base : Nat} {w : World} {v : Value} {ks : Key} (h : NewKey base w v ks) (n : Nat) : NewKey base (w.drewN n) v ks := h.here (below_draws (Below.refl _ _) n)

theorem KeyIn.drop {B : Nat} {w : World} {g off c : Nat} {ks : Key} (h : KeyIn B w (.slice (some ⟨g, off, none⟩) ks.length c) ks) (K : Nat) (hK : K ≤ ks.length) : KeyIn B w (.slice (some ⟨g, off + K, none⟩) (ks.length - K) (c - K)) (ks.drop K) := by
  obtain ⟨⟨a, c', e, h1, h2, h3⟩, h4⟩ := h
  cases e
  refine ⟨⟨_, c - K, by rw [List.length_drop], fun j b hj => ?_, by rw [List.length_drop]; omega, fun e => by cases e⟩, by rw [List.length_drop]; omega⟩
  rw [List.getElem?_drop] at hj
  obtain ⟨g', off', e1, hg, hc⟩ := h1 (K + j) b hj
  cases e1
  exact ⟨g, off + K, rfl, hg, by rw [Nat.add_assoc]; exact hc⟩
theorem KeyIn.void {B : Nat} {w : World} (a : Addr) (c : Nat) : KeyIn B w (.slice (some a) 0 c) [] :=
  ⟨⟨some a, c, rfl, fun j b hj => by simp at hj, Nat.zero_le _, fun e => by cases e⟩, by decide⟩

set_option maxHeartbeats 1600000 in
set_option maxRecDepth 100000 in
theorem encode_any {w : World} {v : Value} {L : List It} {z : Int} (hL : ListAt w.heap.size w v L) (hw : weightE (L.map It.e) ≤ 4294967296) :
    Calls Try.prog 28 #[.int .i64 z, v] w fun r w' => ∃ v', r = .returned (.tuple #[v', .int .i64 (checkE z (L.map It.e) : Nat)]) ∧ NewKey w.heap.size w' v' (if checkE z (L.map It.e) = 0 then encE (L.map It.e) else []) ∧ Below w.heap.size w w' := by
  have hsh := hL.short
  obtain ⟨i0, hi0, hz0, hz1, hz2⟩ := info5'
  obtain ⟨a, c, rfl⟩ := hL.form
  have HL : Hid (ListAt w.heap.size w (.slice a L.length c) L) := hL
  have HCK : Hid (∀ w', Below w.heap.size w w' → Calls Try.prog 30 #[.int .i64 z, .slice a L.length c] w' fun r w'' => r = .returned (.int .i64 (checkE z (L.map It.e) : Nat)) ∧ Below w'.heap.size w' w'') := fun w' hb => check_any (HL.out.here hb) hw
  have HBY : Hid (∀ w', Below w.heap.size w w' → Calls Try.prog 31 #[.slice a L.length c] w' fun r w'' => r = .returned (.int .i64 (bytesE (L.map It.e) : Nat)) ∧ ∃ q, w'' = w'.drewN q) := fun w' hb => bytes_any (HL.out.here hb) hw
  clear hL
  by_cases hc : checkE z (L.map It.e) = 0
  · obtain ⟨hz, hf, hb⟩ := checkE_ok hc
    have hzz := sized_le hz
    have HM : Hid (∀ e ∈ L.map It.e, e.k.length ≠ 0 ∧ e.k.length ≤ z.toNat / 16 ∧ e.v.length ≤ z.toNat / 4) := faultF_mem hf
    have h6 : L.length < 65536 := by have := bytesF_length [] (L.map It.e); unfold bytesE at hb; simp at this; omega
    rw [hc] at HCK ⊢
    simp only [if_true]
    obtain ⟨N, hN⟩ : ∃ N, N = bytesE (L.map It.e) := ⟨_, rfl⟩
    rw [← hN] at hb HBY
    have HN : Hid _ := hN
    clear hN hf hc
    go_enter Try.func28, Try.ntmps28
    go_wp2_with (first
      | (go_at_call 30; refine (HCK.out _ (Below.refl _ _)).mono ?_; rintro r w1 ⟨rfl, hb1⟩
         have HB1 : Hid (Below w.heap.size w w1) := hb1
         clear hb1)
      | (go_at_call 31; refine (HBY.out _ HB1.out).mono ?_; rintro r w2 ⟨rfl, q, rfl⟩)
      | (refine wpList_make_own _ rfl _ _ 39 rfl w.heap.size 5 i0 (.int .u8 0) 1 Try.underlying39 hi0 hz0 hz1 .i64 .i64 (N : Int) N rfl rfl rfl (by rw [hz2]; omega) (by unfold maxLen; omega) HB1.out.size ?_
         intro w3 ho3 hg3
         have HV3 : Hid (NewKey w.heap.size w3 (.slice (some ⟨w1.heap.size, 0, none⟩) 0 N) []) := ⟨ho3, by decide⟩
         have HB3 : Hid (Below w.heap.size w w3) := (below_draws HB1.out q).grown hg3 HB1.out.size (fun k e => by cases e)
         clear ho3 hg3)
      | (go_at_call 60; refine (number_any (n := L.length) HV3.out (by simp) h6 HB3.out.size).mono ?_; rintro r w4 ⟨v4, rfl, hk4, hkp4⟩
         have HV4 : Hid (NewKey w.heap.size w4 v4 (two L.length)) := hk4
         have HB4 : Hid (Below w.heap.size w w4) := HB3.out.trans hkp4.low
         clear hk4 hkp4))
    go_loopw [7, 26] (fun b i wx => ∃ k : Nat, k ≤ L.length ∧ i = .int .i64 k ∧ NewKey w.heap.size wx b (two L.length ++ encF [] ((L.map It.e).take k)) ∧ Below w.heap.size w wx) (fun _ i _ => L.length - (intOf i).toNat)
    case atStart => exact ⟨0, by omega, rfl, by simp only [List.take_zero, encF, List.append_nil]; exact HV4.out, HB4.out⟩
    case round =>
      obtain ⟨k, hk, rfl, hv, hbe⟩ := hrel
      have HV : Hid (NewKey w.heap.size wr u7 (two L.length ++ encF [] ((L.map It.e).take k))) := hv
      have HBE : Hid (Below w.heap.size w wr) := hbe
      clear hv hbe
      by_cases hlt : k < L.length
      · have hzl : (k : Int) < (L.length : Int) := by omega
        obtain ⟨e, he⟩ : ∃ e, L[k]? = some e := ⟨_, List.getElem?_eq_getElem hlt⟩
        have hL := HL.out.here HBE.out
        obtain ⟨g, off, c', e1, k0, k1⟩ := hL.cells k e he
        cases e1
        obtain ⟨a1, c1, f1⟩ := (hL.ok e (List.mem_of_getElem? he)).k.form
        obtain ⟨a2, c2, f2⟩ := (hL.ok e (List.mem_of_getElem? he)).v.form
        rw [f1] at k0
        rw [f2] at k1
        obtain ⟨hm1, hm2, hm3⟩ := HM.out e.e (List.mem_map.2 ⟨e, List.mem_of_getElem? he, rfl⟩)
        have HCR := comK_right (prevK (L.map It.e) k) e.e.k
        have HST : Hid (two L.length ++ encF [] ((L.map It.e).take (k + 1)) = ((((two L.length ++ encF [] ((L.map It.e).take k) ++ two (comK (prevK (L.map It.e) k) e.e.k)) ++ two (e.e.k.length - comK (prevK (L.map It.e) k) e.e.k)) ++ two e.e.v.length) ++ e.e.k.drop (comK (prevK (L.map It.e) k) e.e.k)) ++ e.e.v) := by
          rw [Hid, encF_take [] _ k e.e (ents_get he)]
          show _ = _
          simp only [enB, prevK, List.append_assoc]
        have hshort : (two L.length ++ encF [] ((L.map It.e).take k)).length ≤ 25769803780 := by
          rw [List.length_append, encF_length]
          have h1 := bytesF_weight [] ((L.map It.e).take k)
          have h2 := weightE_take (L.map It.e) k
          simp [two]; omega
        generalize two L.length ++ encF [] ((L.map It.e).take k) = T at HST HV hshort
        obtain ⟨W, hW⟩ : ∃ W, W = wr.alloc (.cells #[.slice a1 e.e.k.length c1, .slice a2 e.e.v.length c2] 47) := ⟨_, rfl⟩
        have HBW : Hid (Below wr.heap.size wr W) := by rw [hW]; exact below_new _ _
        have hbx : EBox W wr.heap.size (.slice a1 e.e.k.length c1) (.slice a2 e.e.v.length c2) := by rw [hW]; exact EBox.new _ _ _
        have HAL : Hid (Calls Try.prog 57 #[.slice (some ⟨g, off, none⟩) L.length c, .int .i64 k] W fun r w' => r = .returned (.int .i64 (comK (prevK (L.map It.e) k) e.e.k : Nat)) ∧ ∃ q, w' = W.drewN q) := alike_any (hL.here HBW.out) he
        have HKI : Hid (KeyIn w.heap.size W (.slice a1 e.e.k.length c1) e.e.k) := by
          have := (HL.out.below (HBE.out.trans (HBW.out.mono HBE.out.size))).ok e (List.mem_of_getElem? he)
          rw [← f1]; exact this.k
        have HVI : Hid (KeyIn w.heap.size W (.slice a2 e.e.v.length c2) e.e.v) := by
          have := (HL.out.below (HBE.out.trans (HBW.out.mono HBE.out.size))).ok e (List.mem_of_getElem? he)
          rw [← f2]; exact this.v
        have HVW : Hid (NewKey w.heap.size W u7 T) := HV.out.here HBW.out
        have HBB : Hid (Below w.heap.size w W) := HBE.out.trans (HBW.out.mono HBE.out.size)
        have hsz : w.heap.size ≤ W.heap.size := HBB.out.size
        have HX0 : Hid _ := hbx
        generalize comK (prevK (L.map It.e) k) e.e.k = K at *
        have hK1 : K < 65536 := by omega
        have hK2 : e.e.k.length - K < 65536 := by omega
        have hK3 : e.e.v.length < 65536 := by omega
        have hK4 : (e.e.k.length : Int) - (K : Int) = ((e.e.k.length - K : Nat) : Int) := by omega
        clear hL he f1 f2 hbx
        obtain ⟨ga, oa, ea⟩ : ∃ ga oa, a1 = some ⟨ga, oa, none⟩ := by
          obtain ⟨⟨a, c, e1, hb1, _⟩, _⟩ := HKI.out
          cases e1
          obtain ⟨x, hx⟩ : ∃ x, e.e.k[0]? = some x := ⟨_, List.getElem?_eq_getElem (by omega)⟩
          obtain ⟨ga, oa, e2, _⟩ := hb1 0 x hx
          exact ⟨ga, oa, e2⟩
        subst ea
        have HCL : Hid (e.e.k.length ≤ c1) := by
          obtain ⟨⟨a, c, e1, _, hc, _⟩, _⟩ := HKI.out
          cases e1; exact hc
        have HD : Hid (∀ w', Keeps w.heap.size W w' → (c1 ≠ K → KeyAt w' (.slice (some ⟨ga, oa + K, none⟩) (e.e.k.length - K) (c1 - K)) (e.e.k.drop K)) ∧ (∀ c', c1 = K → KeyAt w' (.slice (some ⟨ga, oa, none⟩) (e.e.k.length - K) c') (e.e.k.drop K))) := by
          intro w' hk
          have hle : w.heap.size ≤ w'.heap.size := Nat.le_trans hsz hk.low.size
          refine ⟨fun _ => ((HKI.out.below hk.low).drop K HCR).at hle, fun c' hcK => ?_⟩
          have hcl := HCL.out
          have e1 : e.e.k.drop K = [] := List.drop_of_length_le (by omega)
          rw [e1, show e.e.k.length - K = 0 by omega]
          exact (KeyIn.void _ _).at hle
        rcases Decidable.em (c1 = K) with rfl | hcK
        all_goals
          go_upto_region 9 with fail
          rw [← hW]
          clear hW
          go_wp2_with fail
          refine HAL.out.mono ?_
          rintro r w5 ⟨rfl, q5, rfl⟩
          go_wp2_with fail
          refine (number_any (HVW.out.draws q5) (by omega) hK1 hsz).mono ?_
          rintro r w6 ⟨v6, rfl, hv6, hk6⟩
          have HV6 : Hid _ := hv6
          have HK6 : Hid (Keeps w.heap.size W w6) := ((Keeps.refl _ _).draws q5).trans hk6
          obtain ⟨x0, x1⟩ := (HX0.out.keeps HK6.out).cells
          clear hv6 hk6
          go_wp2_with fail
          refine (number_any HV6.out (by simp [two]; omega) hK2 (Nat.le_trans hsz HK6.out.low.size)).mono ?_
          rintro r w7 ⟨v7, rfl, hv7, hk7⟩
          have HV7 : Hid _ := hv7
          have HK7 : Hid (Keeps w.heap.size W w7) := HK6.out.trans hk7
          clear hv7 hk7 x0 x1
          obtain ⟨x0, x1⟩ := (HX0.out.keeps HK7.out).cells
          go_wp2_with fail
          refine (number_any HV7.out (by simp [two]; omega) hK3 (Nat.le_trans hsz HK7.out.low.size)).mono ?_
          rintro r w8 ⟨v8, rfl, hv8, hk8⟩
          have HV8 : Hid _ := hv8
          have HK8 : Hid (Keeps w.heap.size W w8) := HK7.out.trans hk8
          clear hv8 hk8 x0 x1
          obtain ⟨x0, x1⟩ := (HX0.out.keeps HK8.out).cells
          have hw8 : w.heap.size ≤ w8.heap.size := Nat.le_trans hsz HK8.out.low.size
          have HD8 : Hid _ := HD.out w8 HK8.out
          go_wp2_with (first
            | (at_builtin; refine wpList_append_key rfl _ _ rfl w.heap.size v8 _ _ _ rfl HV8.out rfl (by first | exact HD8.out.1 hcK | exact HD8.out.2 _ (by first | trivial | rfl)) (by simp [two]; omega) hw8 ?_
               intro v9 w9 hv9 hk9
               have HV9 : Hid _ := hv9
               have HK9 : Hid (Keeps w.heap.size W w9) := HK8.out.trans hk9
               clear hv9 hk9 x0 x1
               obtain ⟨x0, x1⟩ := (HX0.out.keeps HK9.out).cells
               have hw9 : w.heap.size ≤ w9.heap.size := Nat.le_trans hsz HK9.out.low.size)
            | (at_builtin; refine wpList_append_key rfl _ _ rfl w.heap.size v9 _ _ e.e.v rfl HV9.out rfl ((HVI.out.below HK9.out.low).at hw9) (by simp [two]; omega) hw9 ?_
               intro v10 w10 hv10 hk10
               have HV10 : Hid _ := hv10
               have HK10 : Hid (Keeps w.heap.size W w10) := HK9.out.trans hk10
               clear hv10 hk10 x0 x1))
          exact ⟨⟨k + 1, by omega, by go_num, by rw [HST.out]; exact HV10.out, HBB.out.trans HK10.out.low⟩, by simp [intOf]; omega⟩
      · have hzl : ¬ (k : Int) < (L.length : Int) := by omega
        have HE : Hid ((L.map It.e).take k = L.map It.e) := List.take_of_length_le (by simp; omega)
        have HR : Hid (NewKey w.heap.size wr u7 (encE (L.map It.e))) := by
          have := HV.out
          rw [HE.out] at this
          unfold encE Hid
          rw [List.length_map]
          exact this
        go_wp2
        go_ret2
        exact ⟨_, rfl, HR.out, HBE.out⟩
  · have hcz : ((checkE z (L.map It.e) : Int) != 0) = true := by simp; omega
    rw [if_neg hc]
    go_enter Try.func28, Try.ntmps28
    go_wp2_with (first
      | (go_at_call 30; refine (HCK.out _ (Below.refl _ _)).mono ?_; rintro r w1 ⟨rfl, hb1⟩
         have HB1 : Hid (Below w.heap.size w w1) := hb1
         clear hb1))
    go_ret2
    exact ⟨_, rfl, NewKey.nil _ _, HB1.out⟩
end Go.Proofs.Ytgifnaahahfhbaa
