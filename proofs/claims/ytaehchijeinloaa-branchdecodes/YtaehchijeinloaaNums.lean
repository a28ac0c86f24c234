/- number, putNumber. -/
import Derived.Test.YtaehchijeinloaaCheck
import Derived.Laws.BitsAllLaws
namespace Go.Proofs.Ytaehchijeinloaa
open Go.RowKit

/-- What stays: all below a border, and whatever block is none of bytes. -/
structure Keeps (B : Nat) (w w' : World) : Prop where
  low : Below B w w'
  typ : ∀ (k : Nat) (cur : Array Value) (t : TypeId) z, t ≠ 5 → w.heap[k]? = some (Obj.cells cur t z) → w'.heap[k]? = some (Obj.cells cur t z)
theorem Keeps.refl (B : Nat) (w : World) : Keeps B w w := ⟨Below.refl _ _, fun _ _ _ _ _ h => h⟩
theorem Keeps.trans {B : Nat} {a b c : World} (h : Keeps B a b) (k : Keeps B b c) : Keeps B a c := ⟨h.low.trans k.low, fun i cur t z ht hi => k.typ i cur t z ht (h.typ i cur t z ht hi)⟩
theorem Keeps.of {B : Nat} {w w' : World} (h : Below w.heap.size w w') (hB : B ≤ w.heap.size) : Keeps B w w' := ⟨h.mono hB, fun k cur t z _ hk => by rw [h.block k (Array.getElem?_eq_some_iff.1 hk).1]; exact hk⟩
theorem Keeps.draws {B : Nat} {a w : World} (h : Keeps B a w) (n : Nat) : Keeps B a (w.drewN n) := ⟨below_draws h.low n, h.typ⟩
theorem Keeps.mono {B B' : Nat} {a w : World} (h : Keeps B a w) (hB : B' ≤ B) : Keeps B' a w := ⟨h.low.mono hB, h.typ⟩
theorem Keeps.grown {base : Nat} {w w' : World} {v : Value} {ks : Key} (hv : NewKey base w v ks) (hg : w.grownBy w' v.ownBlock) (hB : base ≤ w.heap.size) : Keeps base w w' := by
  refine ⟨(Below.refl _ _).grown hg hB (fun k e => (own_type hv.1 k e).2.1), fun k cur t z ht hk => ?_⟩
  obtain ⟨_, _, _, _, hbl⟩ := hg
  rw [hbl k (Array.getElem?_eq_some_iff.1 hk).1]
  · exact hk
  · intro e
    obtain ⟨_, _, cur', h'⟩ := own_type hv.1 k e.symm
    rw [hk] at h'
    simp only [Option.some.injEq, Obj.cells.injEq] at h'
    exact ht h'.2.1

/-- 'append' of bytes onto bytes of new memory. -/
theorem wpList_append_key {w : World} {ops : Array Oper} {rest : List Oper} {o : Oper} {a : Act} {Q : Exit → Act → World → Prop} (hgd : o.guard = none) (s x : Operand)
    (ho : o.op = .call { callee := .builtin .append, args := #[s, x], argTypes := #[27, 27] }) (base : Nat)
    (v u : Value) (ks bs : Key) (hs : a.eval s = v) (hv : NewKey base w v ks) (hx : a.eval x = u) (hu : KeyAt w u bs)
    (hlen : ks.length + bs.length ≤ 140737488355328) (hbase : base ≤ w.heap.size)
    (h : ∀ v' w', NewKey base w' v' (ks ++ bs) → Keeps base w w' → wpList Try.prog ops Q rest (a.put o.dst v') w') : wpList Try.prog ops Q (o :: rest) a w := by
  obtain ⟨i0, hi, hz0, hz1, hz2⟩ := info5'
  obtain ⟨⟨ao, c, rfl, hb, hc, hn⟩, hl⟩ := hu
  cases ao with
  | none =>
    have h0 : bs = [] := by
      cases bs with
      | nil => rfl
      | cons b r => obtain ⟨_, _, e, _⟩ := hb 0 b rfl; cases e
    subst h0
    obtain rfl := hn rfl
    refine wpList_append_own_none hgd s x 27 ho base 5 i0 1 Try.underlying27 hi _ _ _ hs hv.1 hx ?_
    exact h v w (by rw [List.append_nil]; exact hv) (Keeps.refl _ _)
  | some ad =>
    refine wpList_append_own w hgd s x 27 ho base 5 i0 (.int .u8 0) 1 1 Try.underlying27 hi hz0 hz1 hz2 rfl (by decide) _ _ _ hs hv.1 ad bs.length c (bs.map encB) hx (by simp) ?_ ?_ (by unfold maxLen; omega) (by omega) hbase ?_
    · intro j u hj
      rw [List.getElem?_map] at hj
      cases e : bs[j]? with
      | none => rw [e] at hj; cases hj
      | some b =>
        rw [e] at hj
        cases hj
        obtain ⟨g', off, e1, _, hc⟩ := hb j b e
        cases e1
        rw [add_at]
        exact hc
    · intro u hu
      obtain ⟨b, _, rfl⟩ := List.mem_map.1 hu
      rfl
    · intro v' w' hown hgr _
      refine h v' w' ⟨?_, by rw [List.length_append]; exact hlen⟩ (Keeps.grown hv hgr hbase)
      rw [List.length_append, List.map_append]
      exact hown

theorem key_one' {base : Nat} {w : World} {v : Value} {k : Key} (h : NewKey base w v k) : v.oneCell' = true := by
  obtain ⟨⟨a, c, rfl, _⟩, _⟩ := h.at; rfl
/-- What stays: all below a border, and whatever block is none of a type. -/
structure Keep (T : TypeId) (B : Nat) (w w' : World) : Prop where
  low : Below B w w'
  typ : ∀ (k : Nat) (cur : Array Value) (t : TypeId) z, t ≠ T → w.heap[k]? = some (Obj.cells cur t z) → w'.heap[k]? = some (Obj.cells cur t z)
theorem Keep.refl (T : TypeId) (B : Nat) (w : World) : Keep T B w w := ⟨Below.refl _ _, fun _ _ _ _ _ h => h⟩
theorem Keep.trans {T : TypeId} {B : Nat} {a b c : World} (h : Keep T B a b) (k : Keep T B b c) : Keep T B a c := ⟨h.low.trans k.low, fun i cur t z ht hi => k.typ i cur t z ht (h.typ i cur t z ht hi)⟩
theorem Keep.of {T : TypeId} {B : Nat} {w w' : World} (h : Below w.heap.size w w') (hB : B ≤ w.heap.size) : Keep T B w w' := ⟨h.mono hB, fun k cur t z _ hk => by rw [h.block k (Array.getElem?_eq_some_iff.1 hk).1]; exact hk⟩
theorem NewKey.keep {base T B : Nat} {w w' : World} {v : Value} {ks : Key} (h : NewKey base w v ks) (hk : Keep T B w w') (hT : 5 ≠ T) : NewKey base w' v ks :=
  ⟨own_same h.1 fun b hb _ => by
    obtain ⟨_, _, cur, hc⟩ := own_type h.1 b hb
    rw [hc]; exact hk.typ _ _ _ _ hT hc, h.2⟩

theorem keep_set {B g i : Nat} {w : World} {cur : Array Value} {T : TypeId} (h : w.heap[g]? = some (.cells cur T (0, 0))) (hB : B ≤ g) (u : Value) : Keep T B w (w.setCell ⟨g, i, none⟩ u) := by
  refine ⟨(Below.refl _ _).setCell hB _, fun k cur' t z ht hk => ?_⟩
  rw [heap_set_other u]
  · exact hk
  · rintro rfl
    rw [h] at hk
    simp only [Option.some.injEq, Obj.cells.injEq] at hk
    exact ht hk.2.1.symm
theorem NewKey.shape {base : Nat} {w : World} {v : Value} {ks : Key} (h : NewKey base w v ks) : ∃ a n c, v = .slice a n c := by
  obtain ⟨⟨a, c, e, _⟩, _⟩ := h.at; exact ⟨a, _, c, e⟩
theorem NewKey.draws {base : Nat} {w : World} {v : Value} {ks : Key} (h : NewKey base w v ks) (n : Nat) : NewKey base (w.drewN n) v ks := h.here (below_draws (Below.refl _ _) n)
theorem num_take (b : Key) (k : Nat) (c : UInt8) (h : b[k]? = some c) : num (b.take (k + 1)) = num (b.take k) * 256 + c.toNat := by
  rw [List.take_add_one, h]
  simp [num, List.foldl_append]
theorem or_num (N : Nat) (y : UInt8) (hN : N < 16777216) : bits BinOp.or IntKind.i64 ((N : Int) * 256) (y.toNat : Int) = ((N * 256 + y.toNat : Nat) : Int) := by
  have hy := y.toNat_lt
  have e : ((N : Int) * 256) = ((N * 256 : Nat) : Int) := by simp
  rw [e]
  have h1 : (BitVec.ofInt 64 ((N * 256 : Nat) : Int)).toNat = N * 256 := by
    rw [BitVec.ofInt_natCast, BitVec.toNat_ofNat]; exact Nat.mod_eq_of_lt (by omega)
  have h2 : (BitVec.ofInt 64 (y.toNat : Int)).toNat = y.toNat := by
    rw [BitVec.ofInt_natCast, BitVec.toNat_ofNat]; exact Nat.mod_eq_of_lt (by omega)
  have h3 : N * 256 ||| y.toNat = 256 * N + y.toNat := by
    have h := Nat.shiftLeft_add_eq_or_of_lt (b := y.toNat) (i := 8) (by omega) N
    rw [Nat.shiftLeft_eq] at h
    simp at h
    omega
  show IntKind.i64.wrap ((BitVec.ofInt 64 ((N * 256 : Nat) : Int) ||| BitVec.ofInt 64 (y.toNat : Int)).toNat : Int) = _
  rw [BitVec.toNat_or, h1, h2, h3, wrapk_of _ (by omega) (by omega)]
  omega
set_option maxHeartbeats 800000 in
set_option maxRecDepth 100000 in
theorem number_any {w : World} {v : Value} {b : Key} (h : KeyAt w v b) (hl : b.length ≤ 4) :
    Calls Try.prog 56 #[v] w fun r w' => r = .returned (.int .i64 (num b : Nat)) ∧ w' = w := by
  obtain ⟨a, c, rfl⟩ := h.in.form
  have HB : Hid (BytesAt w.heap.size w a b) := by
    obtain ⟨⟨a', c', e, hb, _⟩, _⟩ := h; cases e; exact hb
  clear h
  go_enter Try.func56, Try.ntmps56
  go_wp2
  go_loopw [3, 8] (fun n i wx => ∃ (k N : Nat), k ≤ b.length ∧ i = .int .i64 k ∧ n = .int .i64 N ∧ N = num (b.take k) ∧ wx = w) (fun _ i _ => b.length - (intOf i).toNat)
  case atStart => exact ⟨0, 0, by omega, rfl, rfl, by simp [num], rfl⟩
  case round =>
    obtain ⟨k, N, hk, rfl, rfl, hN, rfl⟩ := hrel
    have HN : Hid (N = num (b.take k)) := hN
    clear hN
    by_cases hlt : k < b.length
    · have hz : (k : Int) < (b.length : Int) := by omega
      obtain ⟨c, hc⟩ : ∃ c, b[k]? = some c := ⟨_, List.getElem?_eq_getElem hlt⟩
      obtain ⟨g, off, rfl, _, hcell⟩ := HB.out k c hc
      have hcl := u8_lt c
      have HS : Hid (num (b.take (k + 1)) = N * 256 + c.toNat) := by rw [Hid, num_take b k c hc, HN.out]
      have hNb : N < 16777216 := by
        have h1 := num_bound (b.take k)
        rw [List.length_take, Nat.min_eq_left (by omega)] at h1
        have h2 : 256 ^ k ≤ 256 ^ 3 := Nat.pow_le_pow_right (by decide) (by omega)
        rw [HN.out]
        omega
      clear hc
      go_wp2
      exact ⟨⟨k + 1, N * 256 + c.toNat, by omega, by go_num, by rw [or_num N c hNb], HS.out.symm, by first | trivial | rfl⟩, by simp [intOf]; omega⟩
    · have hz : ¬ (k : Int) < (b.length : Int) := by omega
      have HE : Hid (N = num b) := by rw [Hid, HN.out, List.take_of_length_le (by omega)]
      go_wp2
      go_ret
      exact ⟨by rw [HE.out]; rfl, rfl⟩

theorem lit1 {w : World} {x : Int} {p : UInt8} (hx : x = (p.toNat : Int)) : KeyAt (w.alloc (.cells #[.int .u8 x] 5)) (.slice (some ⟨w.heap.size, 0, none⟩) 1 1) [p] := by
  subst hx
  refine ⟨⟨_, 1, rfl, fun j c hj => ⟨w.heap.size, 0, rfl, by simp, ?_⟩, Nat.le_refl _, fun h => by cases h⟩, by simp⟩
  rw [row_cell (heap_alloc_last _ _)]
  match j, hj with
  | 0, hj => simp at hj; subst hj; rfl
  | j + 1, hj => simp at hj
set_option maxHeartbeats 1600000 in
set_option maxRecDepth 100000 in
theorem put2_any {base : Nat} {w : World} {v : Value} {ks : Key} {n : Nat} (h : NewKey base w v ks) (hs : ks.length + 4 ≤ 140737488355328) (hn : n < 65536) (hb : base ≤ w.heap.size) :
    Calls Try.prog 36 #[v, .int .i64 2, .int .i64 n] w fun r w' => ∃ v', r = .returned v' ∧ NewKey base w' v' (ks ++ two n) ∧ Keeps base w w' := by
  have hv1 : v.oneCell' = true := key_one' h
  have HV : Hid (NewKey base w v ks) := h
  clear h
  go_enter Try.func36, Try.ntmps36
  go_wp2
  go_loopw [0, 9] (fun v i wx => ∃ k : Nat, k ≤ 2 ∧ i = .int .i64 k ∧ NewKey base wx v (ks ++ (two n).take k) ∧ Keeps base w wx) (fun _ i _ => 2 - (intOf i).toNat)
  case atStart => exact ⟨0, by omega, rfl, by simpa using HV.out, Keeps.refl _ _⟩
  case round =>
    obtain ⟨k, hk, rfl, hv, hkp⟩ := hrel
    have hv0 : u0.oneCell' = true := key_one' hv
    have HV2 : Hid (NewKey base wr u0 (ks ++ (two n).take k)) := hv
    have HKP : Hid (Keeps base w wr) := hkp
    have hbr : base ≤ wr.heap.size := Nat.le_trans hb hkp.low.size
    have HT : Hid (∀ i c, (two n)[i]? = some c → (two n).take (i + 1) = (two n).take i ++ [c]) := fun i c h => by rw [List.take_add_one, h]; rfl
    clear hv hkp
    by_cases hlt : k < 2
    · have hz : (k : Int) < 2 := by omega
      obtain hk0 | hk1 : k = 0 ∨ k = 1 := by omega
      · subst hk0
        go_wp2_with (at_builtin; refine wpList_append_key rfl _ _ rfl base _ _ (ks ++ (two n).take 0) [UInt8.ofNat (n / 256)] rfl (HV2.out.here (below_new _ _)) rfl (lit1 (by rw [UInt8.toNat_ofNat']; omega)) (by simp [two, two]; omega) (by simp; omega) ?_
                     intro v' w' hk hkp
                     have HK : Hid (NewKey base w' v' ((ks ++ (two n).take 0) ++ [UInt8.ofNat (n / 256)])) := hk
                     have HKP2 : Hid (Keeps base w w') := HKP.out.trans ((Keeps.of (below_new _ _) hbr).trans hkp)
                     clear hk hkp)
        refine ⟨⟨0 + 1, by omega, by go_num, ?_, HKP2.out⟩, by simp [intOf]⟩
        rw [HT.out 0 _ rfl, ← List.append_assoc]
        exact HK.out
      · subst hk1
        go_wp2_with (at_builtin; refine wpList_append_key rfl _ _ rfl base _ _ (ks ++ (two n).take 1) [UInt8.ofNat (n % 256)] rfl (HV2.out.here (below_new _ _)) rfl (lit1 (by rw [UInt8.toNat_ofNat']; omega)) (by simp [two, two]; omega) (by simp; omega) ?_
                     intro v' w' hk hkp
                     have HK : Hid (NewKey base w' v' ((ks ++ (two n).take 1) ++ [UInt8.ofNat (n % 256)])) := hk
                     have HKP2 : Hid (Keeps base w w') := HKP.out.trans ((Keeps.of (below_new _ _) hbr).trans hkp)
                     clear hk hkp)
        refine ⟨⟨1 + 1, by omega, by go_num, ?_, HKP2.out⟩, by simp [intOf]⟩
        rw [HT.out 1 _ rfl, ← List.append_assoc]
        exact HK.out
    · have hz : ¬ (k : Int) < 2 := by omega
      have HE : Hid (NewKey base wr u0 (ks ++ two n)) := by
        have := HV2.out
        rw [List.take_of_length_le (by simp [two, two]; omega)] at this
        exact this
      go_wp2
      go_ret
      exact ⟨_, rfl, HE.out, HKP.out⟩
set_option maxHeartbeats 1600000 in
set_option maxRecDepth 100000 in
theorem put4_any {base : Nat} {w : World} {v : Value} {ks : Key} {n : Nat} (h : NewKey base w v ks) (hs : ks.length + 4 ≤ 140737488355328) (hn : n < 4294967296) (hb : base ≤ w.heap.size) :
    Calls Try.prog 36 #[v, .int .i64 4, .int .i64 n] w fun r w' => ∃ v', r = .returned v' ∧ NewKey base w' v' (ks ++ four n) ∧ Keeps base w w' := by
  have hv1 : v.oneCell' = true := key_one' h
  have HV : Hid (NewKey base w v ks) := h
  clear h
  go_enter Try.func36, Try.ntmps36
  go_wp2
  go_loopw [0, 9] (fun v i wx => ∃ k : Nat, k ≤ 4 ∧ i = .int .i64 k ∧ NewKey base wx v (ks ++ (four n).take k) ∧ Keeps base w wx) (fun _ i _ => 4 - (intOf i).toNat)
  case atStart => exact ⟨0, by omega, rfl, by simpa using HV.out, Keeps.refl _ _⟩
  case round =>
    obtain ⟨k, hk, rfl, hv, hkp⟩ := hrel
    have hv0 : u0.oneCell' = true := key_one' hv
    have HV2 : Hid (NewKey base wr u0 (ks ++ (four n).take k)) := hv
    have HKP : Hid (Keeps base w wr) := hkp
    have hbr : base ≤ wr.heap.size := Nat.le_trans hb hkp.low.size
    have HT : Hid (∀ i c, (four n)[i]? = some c → (four n).take (i + 1) = (four n).take i ++ [c]) := fun i c h => by rw [List.take_add_one, h]; rfl
    clear hv hkp
    by_cases hlt : k < 4
    · have hz : (k : Int) < 4 := by omega
      obtain hk0 | hk1 | hk2 | hk3 : k = 0 ∨ k = 1 ∨ k = 2 ∨ k = 3 := by omega
      · subst hk0
        go_wp2_with (at_builtin; refine wpList_append_key rfl _ _ rfl base _ _ (ks ++ (four n).take 0) [UInt8.ofNat (n / 65536 / 256)] rfl (HV2.out.here (below_new _ _)) rfl (lit1 (by rw [UInt8.toNat_ofNat']; omega)) (by simp [four, two]; omega) (by simp; omega) ?_
                     intro v' w' hk hkp
                     have HK : Hid (NewKey base w' v' ((ks ++ (four n).take 0) ++ [UInt8.ofNat (n / 65536 / 256)])) := hk
                     have HKP2 : Hid (Keeps base w w') := HKP.out.trans ((Keeps.of (below_new _ _) hbr).trans hkp)
                     clear hk hkp)
        refine ⟨⟨0 + 1, by omega, by go_num, ?_, HKP2.out⟩, by simp [intOf]⟩
        rw [HT.out 0 _ rfl, ← List.append_assoc]
        exact HK.out
      · subst hk1
        go_wp2_with (at_builtin; refine wpList_append_key rfl _ _ rfl base _ _ (ks ++ (four n).take 1) [UInt8.ofNat (n / 65536 % 256)] rfl (HV2.out.here (below_new _ _)) rfl (lit1 (by rw [UInt8.toNat_ofNat']; omega)) (by simp [four, two]; omega) (by simp; omega) ?_
                     intro v' w' hk hkp
                     have HK : Hid (NewKey base w' v' ((ks ++ (four n).take 1) ++ [UInt8.ofNat (n / 65536 % 256)])) := hk
                     have HKP2 : Hid (Keeps base w w') := HKP.out.trans ((Keeps.of (below_new _ _) hbr).trans hkp)
                     clear hk hkp)
        refine ⟨⟨1 + 1, by omega, by go_num, ?_, HKP2.out⟩, by simp [intOf]⟩
        rw [HT.out 1 _ rfl, ← List.append_assoc]
        exact HK.out
      · subst hk2
        go_wp2_with (at_builtin; refine wpList_append_key rfl _ _ rfl base _ _ (ks ++ (four n).take 2) [UInt8.ofNat (n % 65536 / 256)] rfl (HV2.out.here (below_new _ _)) rfl (lit1 (by rw [UInt8.toNat_ofNat']; omega)) (by simp [four, two]; omega) (by simp; omega) ?_
                     intro v' w' hk hkp
                     have HK : Hid (NewKey base w' v' ((ks ++ (four n).take 2) ++ [UInt8.ofNat (n % 65536 / 256)])) := hk
                     have HKP2 : Hid (Keeps base w w') := HKP.out.trans ((Keeps.of (below_new _ _) hbr).trans hkp)
                     clear hk hkp)
        refine ⟨⟨2 + 1, by omega, by go_num, ?_, HKP2.out⟩, by simp [intOf]⟩
        rw [HT.out 2 _ rfl, ← List.append_assoc]
        exact HK.out
      · subst hk3
        go_wp2_with (at_builtin; refine wpList_append_key rfl _ _ rfl base _ _ (ks ++ (four n).take 3) [UInt8.ofNat (n % 65536 % 256)] rfl (HV2.out.here (below_new _ _)) rfl (lit1 (by rw [UInt8.toNat_ofNat']; omega)) (by simp [four, two]; omega) (by simp; omega) ?_
                     intro v' w' hk hkp
                     have HK : Hid (NewKey base w' v' ((ks ++ (four n).take 3) ++ [UInt8.ofNat (n % 65536 % 256)])) := hk
                     have HKP2 : Hid (Keeps base w w') := HKP.out.trans ((Keeps.of (below_new _ _) hbr).trans hkp)
                     clear hk hkp)
        refine ⟨⟨3 + 1, by omega, by go_num, ?_, HKP2.out⟩, by simp [intOf]⟩
        rw [HT.out 3 _ rfl, ← List.append_assoc]
        exact HK.out
    · have hz : ¬ (k : Int) < 4 := by omega
      have HE : Hid (NewKey base wr u0 (ks ++ four n)) := by
        have := HV2.out
        rw [List.take_of_length_le (by simp [four, two]; omega)] at this
        exact this
      go_wp2
      go_ret
      exact ⟨_, rfl, HE.out, HKP.out⟩
end Go.Proofs.Ytaehchijeinloaa
