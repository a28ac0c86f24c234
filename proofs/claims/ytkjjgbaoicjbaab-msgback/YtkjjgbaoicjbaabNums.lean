/- putNumber; bytes behind bytes of new memory. -/
import Derived.Test.YtkjjgbaoicjbaabCheck2
import Derived.Laws.BitsAllLaws
namespace Go.Proofs.Ytkjjgbaoicjbaab
open Go.RowKit

/-- What stays: all below a border, and whatever block is none of bytes. -/
structure Keeps (B : Nat) (w w' : World) : Prop where
  low : Below B w w'
  typ : ∀ (k : Nat) (cur : Array Value) (t : TypeId) z, t ≠ 5 → w.heap[k]? = some (Obj.cells cur t z) → w'.heap[k]? = some (Obj.cells cur t z)
theorem Keeps.refl (B : Nat) (w : World) : Keeps B w w := ⟨Below.refl _ _, fun _ _ _ _ _ h => h⟩
theorem Keeps.trans {B : Nat} {a b c : World} (h : Keeps B a b) (k : Keeps B b c) : Keeps B a c := ⟨h.low.trans k.low, fun i cur t z ht hi => k.typ i cur t z ht (h.typ i cur t z ht hi)⟩
theorem Keeps.of {B : Nat} {w w' : World} (h : Below w.heap.size w w') (hB : B ≤ w.heap.size) : Keeps B w w' := ⟨h.mono hB, fun k cur t z _ hk => by rw [h.block k (Array.getElem?_eq_some_iff.1 hk).1]; exact hk⟩
theorem Keeps.draws {B : Nat} {a w : World} (h : Keeps B a w) (n : Nat) : Keeps B a (w.drewN n) := ⟨below_draws h.low n, h.typ⟩
theorem Keeps.mono {B B' : Nat} {a w : World} (h : Keeps B a w) (hB : B' ≤ B) : Keeps B' a w := ⟨h.low.mono hB, h.typ⟩
theorem Keeps.grown {base : Nat} {w w' : World} {v : Value} {ks : Key} (hv : NewKey base w v ks) (hg : w.grownBy w' v.ownBlock) (hB : base ≤ w.heap.size) : Keeps base w w' := by
  refine ⟨(Below.refl _ _).grown hg hB (fun k e => (own_type hv.1 k e).2.1), fun k cur t z ht hk => ?_⟩
  obtain ⟨_, _, _, _, hbl⟩ := hg
  rw [hbl k (Array.getElem?_eq_some_iff.1 hk).1]
  · exact hk
  · intro e
    obtain ⟨_, _, cur', h'⟩ := own_type hv.1 k e.symm
    rw [hk] at h'
    simp only [Option.some.injEq, Obj.cells.injEq] at h'
    exact ht h'.2.1

/-- 'append' of bytes onto bytes of new memory. -/
theorem wpList_append_key {w : World} {ops : Array Oper} {rest : List Oper} {o : Oper} {a : Act} {Q : Exit → Act → World → Prop} (hgd : o.guard = none) (s x : Operand)
    (ho : o.op = .call { callee := .builtin .append, args := #[s, x], argTypes := #[23, 23] }) (base : Nat)
    (v u : Value) (ks bs : Key) (hs : a.eval s = v) (hv : NewKey base w v ks) (hx : a.eval x = u) (hu : KeyAt w u bs)
    (hlen : ks.length + bs.length ≤ 140737488355328) (hbase : base ≤ w.heap.size)
    (h : ∀ v' w', NewKey base w' v' (ks ++ bs) → Keeps base w w' → wpList Try.prog ops Q rest (a.put o.dst v') w') : wpList Try.prog ops Q (o :: rest) a w := by
  obtain ⟨i0, hi, hz0, hz1, hz2⟩ := info5'
  obtain ⟨⟨ao, c, rfl, hb, hc, hn⟩, hl⟩ := hu
  cases ao with
  | none =>
    have h0 : bs = [] := by
      cases bs with
      | nil => rfl
      | cons b r => obtain ⟨_, _, e, _⟩ := hb 0 b rfl; cases e
    subst h0
    obtain rfl := hn rfl
    refine wpList_append_own_none hgd s x 23 ho base 5 i0 1 Try.underlying23 hi _ _ _ hs hv.1 hx ?_
    exact h v w (by rw [List.append_nil]; exact hv) (Keeps.refl _ _)
  | some ad =>
    refine wpList_append_own w hgd s x 23 ho base 5 i0 (.int .u8 0) 1 1 Try.underlying23 hi hz0 hz1 hz2 rfl (by decide) _ _ _ hs hv.1 ad bs.length c (bs.map encB) hx (by simp) ?_ ?_ (by unfold maxLen; omega) (by omega) hbase ?_
    · intro j u hj
      rw [List.getElem?_map] at hj
      cases e : bs[j]? with
      | none => rw [e] at hj; cases hj
      | some b =>
        rw [e] at hj
        cases hj
        obtain ⟨g', off, e1, _, hc⟩ := hb j b e
        cases e1
        rw [add_at]
        exact hc
    · intro u hu
      obtain ⟨b, _, rfl⟩ := List.mem_map.1 hu
      rfl
    · intro v' w' hown hgr _
      refine h v' w' ⟨?_, by rw [List.length_append]; exact hlen⟩ (Keeps.grown hv hgr hbase)
      rw [List.length_append, List.map_append]
      exact hown

theorem key_one' {base : Nat} {w : World} {v : Value} {k : Key} (h : NewKey base w v k) : v.oneCell' = true := by
  obtain ⟨⟨a, c, rfl, _⟩, _⟩ := h.at; rfl
theorem keep_set {B g i : Nat} {w : World} {cur : Array Value} {T : TypeId} (h : w.heap[g]? = some (.cells cur T (0, 0))) (hB : B ≤ g) (u : Value) : Keep T B w (w.setCell ⟨g, i, none⟩ u) := by
  refine ⟨(Below.refl _ _).setCell hB _, fun k cur' t z ht hk => ?_⟩
  rw [heap_set_other u]
  · exact hk
  · rintro rfl
    rw [h] at hk
    simp only [Option.some.injEq, Obj.cells.injEq] at hk
    exact ht hk.2.1.symm
theorem NewKey.shape {base : Nat} {w : World} {v : Value} {ks : Key} (h : NewKey base w v ks) : ∃ a n c, v = .slice a n c := by
  obtain ⟨⟨a, c, e, _⟩, _⟩ := h.at; exact ⟨a, _, c, e⟩
theorem NewKey.draws {base : Nat} {w : World} {v : Value} {ks : Key} (h : NewKey base w v ks) (n : Nat) : NewKey base (w.drewN n) v ks := h.here (below_draws (Below.refl _ _) n)
theorem num_take (b : Key) (k : Nat) (c : UInt8) (h : b[k]? = some c) : num (b.take (k + 1)) = num (b.take k) * 256 + c.toNat := by
  rw [List.take_add_one, h]
  simp [num, List.foldl_append]
theorem lit1 {w : World} {x : Int} {p : UInt8} (hx : x = (p.toNat : Int)) : KeyAt (w.alloc (.cells #[.int .u8 x] 5)) (.slice (some ⟨w.heap.size, 0, none⟩) 1 1) [p] := by
  subst hx
  refine ⟨⟨_, 1, rfl, fun j c hj => ⟨w.heap.size, 0, rfl, by simp, ?_⟩, Nat.le_refl _, fun h => by cases h⟩, by simp⟩
  rw [row_cell (heap_alloc_last _ _)]
  match j, hj with
  | 0, hj => simp at hj; subst hj; rfl
  | j + 1, hj => simp at hj
theorem u8_same {a b : Nat} (h : a % 256 = b % 256) : UInt8.ofNat a = UInt8.ofNat b := by
  apply UInt8.toNat_inj.1
  rw [UInt8.toNat_ofNat', UInt8.toNat_ofNat']; exact h
def by1 (n : Nat) : Key := [UInt8.ofNat n]
def by2 (n : Nat) : Key := [UInt8.ofNat (n / 256), UInt8.ofNat n]
def by4 (n : Nat) : Key := [UInt8.ofNat (n / 16777216), UInt8.ofNat (n / 65536), UInt8.ofNat (n / 256), UInt8.ofNat n]
def by8 (n : Nat) : Key := [UInt8.ofNat (n / 72057594037927936), UInt8.ofNat (n / 281474976710656), UInt8.ofNat (n / 1099511627776), UInt8.ofNat (n / 4294967296), UInt8.ofNat (n / 16777216), UInt8.ofNat (n / 65536), UInt8.ofNat (n / 256), UInt8.ofNat n]
theorem by2_two (n : Nat) : by2 n = two n := by
  unfold by2 two
  rw [u8_same (a := n) (b := n % 256) (by omega)]
theorem by4_four (n : Nat) (_h : n < 4294967296) : by4 n = four n := by
  unfold by4 four two
  simp only [List.cons_append, List.nil_append, List.cons.injEq, and_true]
  exact ⟨u8_same (by omega), u8_same (by omega), u8_same (by omega), u8_same (by omega)⟩
theorem by8_eight (n : Nat) (_h : n < 18446744073709551616) : by8 n = eight n := by
  unfold by8 eight four two
  simp only [List.cons_append, List.nil_append, List.cons.injEq, and_true]
  exact ⟨u8_same (by omega), u8_same (by omega), u8_same (by omega), u8_same (by omega), u8_same (by omega), u8_same (by omega), u8_same (by omega), u8_same (by omega)⟩

set_option maxHeartbeats 3200000 in
set_option maxRecDepth 100000 in
theorem put1_any {base : Nat} {w : World} {v : Value} {ks : Key} {n : Nat} (h : NewKey base w v ks) (hs : ks.length + 8 ≤ 140737488355328) (_hn : n < 18446744073709551616) (hb : base ≤ w.heap.size) :
    Calls Try.prog 21 #[v, .int .i64 1, .int .u64 (n : Int)] w fun r w' => ∃ v', r = .returned v' ∧ NewKey base w' v' (ks ++ by1 n) ∧ Keeps base w w' := by
  have hv1 : v.oneCell' = true := key_one' h
  have HV : Hid (NewKey base w v ks) := h
  clear h
  go_enter Try.func21, Try.ntmps21
  go_wp2
  go_loopw [0, 9] (fun v i wx => ∃ k : Nat, k ≤ 1 ∧ i = .int .i64 k ∧ NewKey base wx v (ks ++ (by1 n).take k) ∧ Keeps base w wx) (fun _ i _ => 1 - (intOf i).toNat)
  case atStart => exact ⟨0, by omega, rfl, by simpa using HV.out, Keeps.refl _ _⟩
  case round =>
    obtain ⟨k, hk, rfl, hv, hkp⟩ := hrel
    have hv0 : u0.oneCell' = true := key_one' hv
    have HV2 : Hid (NewKey base wr u0 (ks ++ (by1 n).take k)) := hv
    have HKP : Hid (Keeps base w wr) := hkp
    have hbr : base ≤ wr.heap.size := Nat.le_trans hb hkp.low.size
    have HT : Hid (∀ i c, (by1 n)[i]? = some c → (by1 n).take (i + 1) = (by1 n).take i ++ [c]) := fun i c h => by rw [List.take_add_one, h]; rfl
    clear hv hkp
    by_cases hlt : k < 1
    · have hz : (k : Int) < 1 := by omega
      have hcs : k = 0 := by omega
      obtain rfl := hcs
      · go_wp2_with (at_builtin; refine wpList_append_key rfl _ _ rfl base _ _ (ks ++ (by1 n).take 0) [UInt8.ofNat n] rfl (HV2.out.here (below_new _ _)) rfl (lit1 (by rw [UInt8.toNat_ofNat']; omega)) (by simp [by1]; omega) (by simp; omega) ?_
                     intro v' w' hk hkp
                     have HK : Hid (NewKey base w' v' ((ks ++ (by1 n).take 0) ++ [UInt8.ofNat n])) := hk
                     have HKP2 : Hid (Keeps base w w') := HKP.out.trans ((Keeps.of (below_new _ _) hbr).trans hkp)
                     clear hk hkp)
        refine ⟨⟨0 + 1, by omega, by go_num, ?_, HKP2.out⟩, by simp [intOf]⟩
        rw [HT.out 0 _ rfl, ← List.append_assoc]
        exact HK.out
    · have hz : ¬ (k : Int) < 1 := by omega
      have HE : Hid (NewKey base wr u0 (ks ++ by1 n)) := by
        have := HV2.out
        rw [List.take_of_length_le (by simp [by1]; omega)] at this
        exact this
      go_wp2
      go_ret
      exact ⟨_, rfl, HE.out, HKP.out⟩

set_option maxHeartbeats 3200000 in
set_option maxRecDepth 100000 in
theorem put2_any {base : Nat} {w : World} {v : Value} {ks : Key} {n : Nat} (h : NewKey base w v ks) (hs : ks.length + 8 ≤ 140737488355328) (_hn : n < 18446744073709551616) (hb : base ≤ w.heap.size) :
    Calls Try.prog 21 #[v, .int .i64 2, .int .u64 (n : Int)] w fun r w' => ∃ v', r = .returned v' ∧ NewKey base w' v' (ks ++ by2 n) ∧ Keeps base w w' := by
  have hv1 : v.oneCell' = true := key_one' h
  have HV : Hid (NewKey base w v ks) := h
  clear h
  go_enter Try.func21, Try.ntmps21
  go_wp2
  go_loopw [0, 9] (fun v i wx => ∃ k : Nat, k ≤ 2 ∧ i = .int .i64 k ∧ NewKey base wx v (ks ++ (by2 n).take k) ∧ Keeps base w wx) (fun _ i _ => 2 - (intOf i).toNat)
  case atStart => exact ⟨0, by omega, rfl, by simpa using HV.out, Keeps.refl _ _⟩
  case round =>
    obtain ⟨k, hk, rfl, hv, hkp⟩ := hrel
    have hv0 : u0.oneCell' = true := key_one' hv
    have HV2 : Hid (NewKey base wr u0 (ks ++ (by2 n).take k)) := hv
    have HKP : Hid (Keeps base w wr) := hkp
    have hbr : base ≤ wr.heap.size := Nat.le_trans hb hkp.low.size
    have HT : Hid (∀ i c, (by2 n)[i]? = some c → (by2 n).take (i + 1) = (by2 n).take i ++ [c]) := fun i c h => by rw [List.take_add_one, h]; rfl
    clear hv hkp
    by_cases hlt : k < 2
    · have hz : (k : Int) < 2 := by omega
      have hcs : k = 0 ∨ k = 1 := by omega
      rcases hcs with rfl | rfl
      · go_wp2_with (at_builtin; refine wpList_append_key rfl _ _ rfl base _ _ (ks ++ (by2 n).take 0) [UInt8.ofNat (n / 256)] rfl (HV2.out.here (below_new _ _)) rfl (lit1 (by rw [UInt8.toNat_ofNat']; omega)) (by simp [by2]; omega) (by simp; omega) ?_
                     intro v' w' hk hkp
                     have HK : Hid (NewKey base w' v' ((ks ++ (by2 n).take 0) ++ [UInt8.ofNat (n / 256)])) := hk
                     have HKP2 : Hid (Keeps base w w') := HKP.out.trans ((Keeps.of (below_new _ _) hbr).trans hkp)
                     clear hk hkp)
        refine ⟨⟨0 + 1, by omega, by go_num, ?_, HKP2.out⟩, by simp [intOf]⟩
        rw [HT.out 0 _ rfl, ← List.append_assoc]
        exact HK.out
      · go_wp2_with (at_builtin; refine wpList_append_key rfl _ _ rfl base _ _ (ks ++ (by2 n).take 1) [UInt8.ofNat n] rfl (HV2.out.here (below_new _ _)) rfl (lit1 (by rw [UInt8.toNat_ofNat']; omega)) (by simp [by2]; omega) (by simp; omega) ?_
                     intro v' w' hk hkp
                     have HK : Hid (NewKey base w' v' ((ks ++ (by2 n).take 1) ++ [UInt8.ofNat n])) := hk
                     have HKP2 : Hid (Keeps base w w') := HKP.out.trans ((Keeps.of (below_new _ _) hbr).trans hkp)
                     clear hk hkp)
        refine ⟨⟨1 + 1, by omega, by go_num, ?_, HKP2.out⟩, by simp [intOf]⟩
        rw [HT.out 1 _ rfl, ← List.append_assoc]
        exact HK.out
    · have hz : ¬ (k : Int) < 2 := by omega
      have HE : Hid (NewKey base wr u0 (ks ++ by2 n)) := by
        have := HV2.out
        rw [List.take_of_length_le (by simp [by2]; omega)] at this
        exact this
      go_wp2
      go_ret
      exact ⟨_, rfl, HE.out, HKP.out⟩

set_option maxHeartbeats 3200000 in
set_option maxRecDepth 100000 in
theorem put4_any {base : Nat} {w : World} {v : Value} {ks : Key} {n : Nat} (h : NewKey base w v ks) (hs : ks.length + 8 ≤ 140737488355328) (_hn : n < 18446744073709551616) (hb : base ≤ w.heap.size) :
    Calls Try.prog 21 #[v, .int .i64 4, .int .u64 (n : Int)] w fun r w' => ∃ v', r = .returned v' ∧ NewKey base w' v' (ks ++ by4 n) ∧ Keeps base w w' := by
  have hv1 : v.oneCell' = true := key_one' h
  have HV : Hid (NewKey base w v ks) := h
  clear h
  go_enter Try.func21, Try.ntmps21
  go_wp2
  go_loopw [0, 9] (fun v i wx => ∃ k : Nat, k ≤ 4 ∧ i = .int .i64 k ∧ NewKey base wx v (ks ++ (by4 n).take k) ∧ Keeps base w wx) (fun _ i _ => 4 - (intOf i).toNat)
  case atStart => exact ⟨0, by omega, rfl, by simpa using HV.out, Keeps.refl _ _⟩
  case round =>
    obtain ⟨k, hk, rfl, hv, hkp⟩ := hrel
    have hv0 : u0.oneCell' = true := key_one' hv
    have HV2 : Hid (NewKey base wr u0 (ks ++ (by4 n).take k)) := hv
    have HKP : Hid (Keeps base w wr) := hkp
    have hbr : base ≤ wr.heap.size := Nat.le_trans hb hkp.low.size
    have HT : Hid (∀ i c, (by4 n)[i]? = some c → (by4 n).take (i + 1) = (by4 n).take i ++ [c]) := fun i c h => by rw [List.take_add_one, h]; rfl
    clear hv hkp
    by_cases hlt : k < 4
    · have hz : (k : Int) < 4 := by omega
      have hcs : k = 0 ∨ k = 1 ∨ k = 2 ∨ k = 3 := by omega
      rcases hcs with rfl | rfl | rfl | rfl
      · go_wp2_with (at_builtin; refine wpList_append_key rfl _ _ rfl base _ _ (ks ++ (by4 n).take 0) [UInt8.ofNat (n / 16777216)] rfl (HV2.out.here (below_new _ _)) rfl (lit1 (by rw [UInt8.toNat_ofNat']; omega)) (by simp [by4]; omega) (by simp; omega) ?_
                     intro v' w' hk hkp
                     have HK : Hid (NewKey base w' v' ((ks ++ (by4 n).take 0) ++ [UInt8.ofNat (n / 16777216)])) := hk
                     have HKP2 : Hid (Keeps base w w') := HKP.out.trans ((Keeps.of (below_new _ _) hbr).trans hkp)
                     clear hk hkp)
        refine ⟨⟨0 + 1, by omega, by go_num, ?_, HKP2.out⟩, by simp [intOf]⟩
        rw [HT.out 0 _ rfl, ← List.append_assoc]
        exact HK.out
      · go_wp2_with (at_builtin; refine wpList_append_key rfl _ _ rfl base _ _ (ks ++ (by4 n).take 1) [UInt8.ofNat (n / 65536)] rfl (HV2.out.here (below_new _ _)) rfl (lit1 (by rw [UInt8.toNat_ofNat']; omega)) (by simp [by4]; omega) (by simp; omega) ?_
                     intro v' w' hk hkp
                     have HK : Hid (NewKey base w' v' ((ks ++ (by4 n).take 1) ++ [UInt8.ofNat (n / 65536)])) := hk
                     have HKP2 : Hid (Keeps base w w') := HKP.out.trans ((Keeps.of (below_new _ _) hbr).trans hkp)
                     clear hk hkp)
        refine ⟨⟨1 + 1, by omega, by go_num, ?_, HKP2.out⟩, by simp [intOf]⟩
        rw [HT.out 1 _ rfl, ← List.append_assoc]
        exact HK.out
      · go_wp2_with (at_builtin; refine wpList_append_key rfl _ _ rfl base _ _ (ks ++ (by4 n).take 2) [UInt8.ofNat (n / 256)] rfl (HV2.out.here (below_new _ _)) rfl (lit1 (by rw [UInt8.toNat_ofNat']; omega)) (by simp [by4]; omega) (by simp; omega) ?_
                     intro v' w' hk hkp
                     have HK : Hid (NewKey base w' v' ((ks ++ (by4 n).take 2) ++ [UInt8.ofNat (n / 256)])) := hk
                     have HKP2 : Hid (Keeps base w w') := HKP.out.trans ((Keeps.of (below_new _ _) hbr).trans hkp)
                     clear hk hkp)
        refine ⟨⟨2 + 1, by omega, by go_num, ?_, HKP2.out⟩, by simp [intOf]⟩
        rw [HT.out 2 _ rfl, ← List.append_assoc]
        exact HK.out
      · go_wp2_with (at_builtin; refine wpList_append_key rfl _ _ rfl base _ _ (ks ++ (by4 n).take 3) [UInt8.ofNat n] rfl (HV2.out.here (below_new _ _)) rfl (lit1 (by rw [UInt8.toNat_ofNat']; omega)) (by simp [by4]; omega) (by simp; omega) ?_
                     intro v' w' hk hkp
                     have HK : Hid (NewKey base w' v' ((ks ++ (by4 n).take 3) ++ [UInt8.ofNat n])) := hk
                     have HKP2 : Hid (Keeps base w w') := HKP.out.trans ((Keeps.of (below_new _ _) hbr).trans hkp)
                     clear hk hkp)
        refine ⟨⟨3 + 1, by omega, by go_num, ?_, HKP2.out⟩, by simp [intOf]⟩
        rw [HT.out 3 _ rfl, ← List.append_assoc]
        exact HK.out
    · have hz : ¬ (k : Int) < 4 := by omega
      have HE : Hid (NewKey base wr u0 (ks ++ by4 n)) := by
        have := HV2.out
        rw [List.take_of_length_le (by simp [by4]; omega)] at this
        exact this
      go_wp2
      go_ret
      exact ⟨_, rfl, HE.out, HKP.out⟩

set_option maxHeartbeats 3200000 in
set_option maxRecDepth 100000 in
theorem put8_any {base : Nat} {w : World} {v : Value} {ks : Key} {n : Nat} (h : NewKey base w v ks) (hs : ks.length + 8 ≤ 140737488355328) (hn : n < 18446744073709551616) (hb : base ≤ w.heap.size) :
    Calls Try.prog 21 #[v, .int .i64 8, .int .u64 (n : Int)] w fun r w' => ∃ v', r = .returned v' ∧ NewKey base w' v' (ks ++ by8 n) ∧ Keeps base w w' := by
  have hv1 : v.oneCell' = true := key_one' h
  have HV : Hid (NewKey base w v ks) := h
  clear h
  go_enter Try.func21, Try.ntmps21
  go_wp2
  go_loopw [0, 9] (fun v i wx => ∃ k : Nat, k ≤ 8 ∧ i = .int .i64 k ∧ NewKey base wx v (ks ++ (by8 n).take k) ∧ Keeps base w wx) (fun _ i _ => 8 - (intOf i).toNat)
  case atStart => exact ⟨0, by omega, rfl, by simpa using HV.out, Keeps.refl _ _⟩
  case round =>
    obtain ⟨k, hk, rfl, hv, hkp⟩ := hrel
    have hv0 : u0.oneCell' = true := key_one' hv
    have HV2 : Hid (NewKey base wr u0 (ks ++ (by8 n).take k)) := hv
    have HKP : Hid (Keeps base w wr) := hkp
    have hbr : base ≤ wr.heap.size := Nat.le_trans hb hkp.low.size
    have HT : Hid (∀ i c, (by8 n)[i]? = some c → (by8 n).take (i + 1) = (by8 n).take i ++ [c]) := fun i c h => by rw [List.take_add_one, h]; rfl
    clear hv hkp
    by_cases hlt : k < 8
    · have hz : (k : Int) < 8 := by omega
      have hcs : k = 0 ∨ k = 1 ∨ k = 2 ∨ k = 3 ∨ k = 4 ∨ k = 5 ∨ k = 6 ∨ k = 7 := by omega
      rcases hcs with rfl | rfl | rfl | rfl | rfl | rfl | rfl | rfl
      · go_wp2_with (at_builtin; refine wpList_append_key rfl _ _ rfl base _ _ (ks ++ (by8 n).take 0) [UInt8.ofNat (n / 72057594037927936)] rfl (HV2.out.here (below_new _ _)) rfl (lit1 (by rw [UInt8.toNat_ofNat']; omega)) (by simp [by8]; omega) (by simp; omega) ?_
                     intro v' w' hk hkp
                     have HK : Hid (NewKey base w' v' ((ks ++ (by8 n).take 0) ++ [UInt8.ofNat (n / 72057594037927936)])) := hk
                     have HKP2 : Hid (Keeps base w w') := HKP.out.trans ((Keeps.of (below_new _ _) hbr).trans hkp)
                     clear hk hkp)
        refine ⟨⟨0 + 1, by omega, by go_num, ?_, HKP2.out⟩, by simp [intOf]⟩
        rw [HT.out 0 _ rfl, ← List.append_assoc]
        exact HK.out
      · go_wp2_with (at_builtin; refine wpList_append_key rfl _ _ rfl base _ _ (ks ++ (by8 n).take 1) [UInt8.ofNat (n / 281474976710656)] rfl (HV2.out.here (below_new _ _)) rfl (lit1 (by rw [UInt8.toNat_ofNat']; omega)) (by simp [by8]; omega) (by simp; omega) ?_
                     intro v' w' hk hkp
                     have HK : Hid (NewKey base w' v' ((ks ++ (by8 n).take 1) ++ [UInt8.ofNat (n / 281474976710656)])) := hk
                     have HKP2 : Hid (Keeps base w w') := HKP.out.trans ((Keeps.of (below_new _ _) hbr).trans hkp)
                     clear hk hkp)
        refine ⟨⟨1 + 1, by omega, by go_num, ?_, HKP2.out⟩, by simp [intOf]⟩
        rw [HT.out 1 _ rfl, ← List.append_assoc]
        exact HK.out
      · go_wp2_with (at_builtin; refine wpList_append_key rfl _ _ rfl base _ _ (ks ++ (by8 n).take 2) [UInt8.ofNat (n / 1099511627776)] rfl (HV2.out.here (below_new _ _)) rfl (lit1 (by rw [UInt8.toNat_ofNat']; omega)) (by simp [by8]; omega) (by simp; omega) ?_
                     intro v' w' hk hkp
                     have HK : Hid (NewKey base w' v' ((ks ++ (by8 n).take 2) ++ [UInt8.ofNat (n / 1099511627776)])) := hk
                     have HKP2 : Hid (Keeps base w w') := HKP.out.trans ((Keeps.of (below_new _ _) hbr).trans hkp)
                     clear hk hkp)
        refine ⟨⟨2 + 1, by omega, by go_num, ?_, HKP2.out⟩, by simp [intOf]⟩
        rw [HT.out 2 _ rfl, ← List.append_assoc]
        exact HK.out
      · go_wp2_with (at_builtin; refine wpList_append_key rfl _ _ rfl base _ _ (ks ++ (by8 n).take 3) [UInt8.ofNat (n / 4294967296)] rfl (HV2.out.here (below_new _ _)) rfl (lit1 (by rw [UInt8.toNat_ofNat']; omega)) (by simp [by8]; omega) (by simp; omega) ?_
                     intro v' w' hk hkp
                     have HK : Hid (NewKey base w' v' ((ks ++ (by8 n).take 3) ++ [UInt8.ofNat (n / 4294967296)])) := hk
                     have HKP2 : Hid (Keeps base w w') := HKP.out.trans ((Keeps.of (below_new _ _) hbr).trans hkp)
                     clear hk hkp)
        refine ⟨⟨3 + 1, by omega, by go_num, ?_, HKP2.out⟩, by simp [intOf]⟩
        rw [HT.out 3 _ rfl, ← List.append_assoc]
        exact HK.out
      · go_wp2_with (at_builtin; refine wpList_append_key rfl _ _ rfl base _ _ (ks ++ (by8 n).take 4) [UInt8.ofNat (n / 16777216)] rfl (HV2.out.here (below_new _ _)) rfl (lit1 (by rw [UInt8.toNat_ofNat']; omega)) (by simp [by8]; omega) (by simp; omega) ?_
                     intro v' w' hk hkp
                     have HK : Hid (NewKey base w' v' ((ks ++ (by8 n).take 4) ++ [UInt8.ofNat (n / 16777216)])) := hk
                     have HKP2 : Hid (Keeps base w w') := HKP.out.trans ((Keeps.of (below_new _ _) hbr).trans hkp)
                     clear hk hkp)
        refine ⟨⟨4 + 1, by omega, by go_num, ?_, HKP2.out⟩, by simp [intOf]⟩
        rw [HT.out 4 _ rfl, ← List.append_assoc]
        exact HK.out
      · go_wp2_with (at_builtin; refine wpList_append_key rfl _ _ rfl base _ _ (ks ++ (by8 n).take 5) [UInt8.ofNat (n / 65536)] rfl (HV2.out.here (below_new _ _)) rfl (lit1 (by rw [UInt8.toNat_ofNat']; omega)) (by simp [by8]; omega) (by simp; omega) ?_
                     intro v' w' hk hkp
                     have HK : Hid (NewKey base w' v' ((ks ++ (by8 n).take 5) ++ [UInt8.ofNat (n / 65536)])) := hk
                     have HKP2 : Hid (Keeps base w w') := HKP.out.trans ((Keeps.of (below_new _ _) hbr).trans hkp)
                     clear hk hkp)
        refine ⟨⟨5 + 1, by omega, by go_num, ?_, HKP2.out⟩, by simp [intOf]⟩
        rw [HT.out 5 _ rfl, ← List.append_assoc]
        exact HK.out
      · go_wp2_with (at_builtin; refine wpList_append_key rfl _ _ rfl base _ _ (ks ++ (by8 n).take 6) [UInt8.ofNat (n / 256)] rfl (HV2.out.here (below_new _ _)) rfl (lit1 (by rw [UInt8.toNat_ofNat']; omega)) (by simp [by8]; omega) (by simp; omega) ?_
                     intro v' w' hk hkp
                     have HK : Hid (NewKey base w' v' ((ks ++ (by8 n).take 6) ++ [UInt8.ofNat (n / 256)])) := hk
                     have HKP2 : Hid (Keeps base w w') := HKP.out.trans ((Keeps.of (below_new _ _) hbr).trans hkp)
                     clear hk hkp)
        refine ⟨⟨6 + 1, by omega, by go_num, ?_, HKP2.out⟩, by simp [intOf]⟩
        rw [HT.out 6 _ rfl, ← List.append_assoc]
        exact HK.out
      · go_wp2_with (at_builtin; refine wpList_append_key rfl _ _ rfl base _ _ (ks ++ (by8 n).take 7) [UInt8.ofNat n] rfl (HV2.out.here (below_new _ _)) rfl (lit1 (by rw [UInt8.toNat_ofNat']; omega)) (by simp [by8]; omega) (by simp; omega) ?_
                     intro v' w' hk hkp
                     have HK : Hid (NewKey base w' v' ((ks ++ (by8 n).take 7) ++ [UInt8.ofNat n])) := hk
                     have HKP2 : Hid (Keeps base w w') := HKP.out.trans ((Keeps.of (below_new _ _) hbr).trans hkp)
                     clear hk hkp)
        refine ⟨⟨7 + 1, by omega, by go_num, ?_, HKP2.out⟩, by simp [intOf]⟩
        rw [HT.out 7 _ rfl, ← List.append_assoc]
        exact HK.out
    · have hz : ¬ (k : Int) < 8 := by omega
      have HE : Hid (NewKey base wr u0 (ks ++ by8 n)) := by
        have := HV2.out
        rw [List.take_of_length_le (by simp [by8]; omega)] at this
        exact this
      go_wp2
      go_ret
      exact ⟨_, rfl, HE.out, HKP.out⟩
end Go.Proofs.Ytkjjgbaoicjbaab
