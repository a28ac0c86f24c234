/- The law's runs and bytes. -/
import Derived.Test.YtlokplnapaghhaaDoorLawB
namespace Go.Proofs.YtlokplnapaghhaaDoor
open Go.RowKit

theorem own_zero {w : World} {base e n k : Nat} {v : Value} {xs : List Value} (h : w.ownsRow base e k v n xs) : w.ownsRow 0 e k v n xs := own_mono h (Nat.zero_le _)
theorem Owned.cell {w0 : World} {v0 : Value} {T : TypeId} {k : Nat} {wx : World} {g n c : Nat} (h : Owned w0 v0 T k wx (.slice (some ⟨g, 0, none⟩) n c) n) {j : Nat} (hj : j < n * k) : (∃ x, wx.cell? ⟨g, j, none⟩ = some x) ∧ wx.frozen? ⟨g, j, none⟩ = false := by
  obtain ⟨⟨xs, hl, hr⟩, _, _⟩ := h
  rcases hr with ⟨e, _⟩ | ⟨g', cap, cur, e, hb, hg, hc, hm, hs, ht⟩
  · cases e
  · cases e
    have hlt : j < cur.size := by rw [hs]; exact Nat.lt_of_lt_of_le hj (Nat.mul_le_mul_right _ hc)
    exact ⟨⟨cur[j], by rw [row_cell hg]; exact Array.getElem?_eq_getElem hlt⟩, row_frozen hg j⟩
theorem wpList_append_raw {w : World} {ops : Array Oper} {rest : List Oper} {o : Oper} {a : Act} {Q : Exit → Act → World → Prop} (hgd : o.guard = none) (s x : Operand)
    (ho : o.op = .call { callee := .builtin .append, args := #[s, x], argTypes := #[41, 41] }) (n : Nat) (v : Value) (xs : List Value)
    (hs : a.eval s = v) (hv : w.ownsRow 0 64 2 v n xs) (g : Nat) (hx : a.eval x = .slice (some ⟨g, 0, none⟩) 1 1) (p q : Int)
    (h0 : w.cell? ⟨g, 0, none⟩ = some (.int .i64 p)) (h1 : w.cell? ⟨g, 1, none⟩ = some (.int .i64 q)) (hn : n ≤ 1000000)
    (h : ∀ g' cap w', w'.ownsRow 0 64 2 (.slice (some ⟨g', 0, none⟩) (n + 1) cap) (n + 1) (xs ++ [.int .i64 p, .int .i64 q]) → w.grownBy w' v.ownBlock → (v.ownBlock = some g' ∨ g' = w.heap.size) → wpList Tryd.prog ops Q rest (a.put o.dst (.slice (some ⟨g', 0, none⟩) (n + 1) cap)) w') : wpList Tryd.prog ops Q (o :: rest) a w := by
  obtain ⟨i0, hi, hz0, hz1, hz2⟩ := infoR'
  refine wpList_append_lies w hgd s x 41 ho 0 64 i0 _ 2 16 Tryd.underlying41 hi hz0 hz1 hz2 rfl (by decide) v n xs hs hv ⟨g, 0, none⟩ 1 1 [.int .i64 p, .int .i64 q] hx rfl ?_ ?_ (by decide) (by unfold maxLen; omega) (by omega) (Nat.zero_le _) w.heap.size rfl ?_
  · intro j u hj
    rw [add_at, Nat.zero_add]
    rcases j with _ | _ | j
    · simp at hj; rw [h0, hj]
    · simp at hj; rw [h1, hj]
    · simp at hj
  · intro u hu
    simp at hu
    rcases hu with rfl | rfl <;> rfl
  · intro g' cap w' h2 h3 h4 _
    exact h g' cap w' h2 h3 h4
theorem Owned.form {w0 : World} {v0 : Value} {T : TypeId} {k : Nat} {wx : World} {u : Value} {n : Nat} (h : Owned w0 v0 T k wx u n) : (u = .slice none 0 0 ∧ n = 0) ∨ ∃ g c, u = .slice (some ⟨g, 0, none⟩) n c := by
  obtain ⟨⟨xs, hl, hr⟩, _, _⟩ := h
  rcases hr with h0 | ⟨g', cap, cur, e, _⟩
  · exact .inl h0
  · exact .inr ⟨g', cap, e⟩
set_option maxHeartbeats 4000000 in
set_option maxRecDepth 100000 in
theorem lawRuns_any (w : World) (b : Nat) (s : Sp) (h : SpaceAt w b s) (ht : Tab w) (v : Value) (M : List (Nat × Nat)) (hv : RunsIn w v M) :
    Calls Tryd.prog 12 #[.pointer (some ⟨b, 0, none⟩), v] w fun e w' => e = .returned (.bool (decide (s.runs = M))) ∧ Below w.heap.size w w' := by
  obtain ⟨i0, hi0, hz0, hz1, hz2⟩ := infoR'
  have HR1 := runs_any w b s h ht
  have hl := s.runs_length
  have h1 := h.ok.high
  have HR2 : Hid (∀ W, Below w.heap.size w W → Calls Tryd.prog 36 #[.pointer (some ⟨b, 0, none⟩)] W fun e w' => ∃ v, e = .returned v ∧ NewR W.heap.size w' v s.runs ∧ Below W.heap.size W w') := fun W hW => runs_any W b s (h.below hW) (ht.below hW)
  have HV : Hid (RunsIn w v M) := hv
  generalize s.runs = L at HR1 HR2 hl
  have hL : L.length ≤ 65536 := by omega
  obtain ⟨aV, cV, rfl, _⟩ := hv.is
  clear h ht hl h1 hv
  go_enter Tryd.func12, Tryd.ntmps12
  go_wp2_with (first
    | (go_at_call 36; refine (HR2.out w1 HB1.out).mono ?_; rintro e w2 ⟨v2, rfl, hv2, hb2⟩
       have HV2 : Hid (NewR w1.heap.size w2 v2 L) := hv2
       have HV12 : Hid (NewR w.heap.size w2 _ L) := own_here HV1.out hb2
       have HB2 : Hid (Below w.heap.size w w2) := HB1.out.trans (hb2.mono HB1.out.size)
       obtain ⟨a2, c2, rfl⟩ := own_slice hv2
       clear hv2 hb2)
    | (go_at_call 36; refine HR1.mono ?_; rintro e w1 ⟨v1, rfl, hv1, hb1⟩
       have HV1 : Hid (NewR w.heap.size w1 v1 L) := hv1
       have HB1 : Hid (Below w.heap.size w w1) := hb1
       obtain ⟨a1, c1, rfl⟩ := own_slice hv1
       clear hv1 hb1)
    | (go_at_call 37; refine (sameRuns_any w2 _ _ L M HV12.out.in (HV.out.here HB2.out) (by omega)).mono ?_; rintro e w3 ⟨rfl, q3, hw3⟩
       have hb3 : Below w2.heap.size w2 w3 := by rw [hw3]; exact ⟨rfl, rfl, rfl, Nat.le_refl _, fun _ _ => rfl⟩
       have HV13 : Hid (NewR w.heap.size w3 (.slice a1 L.length c1) L) := own_here HV12.out hb3
       have HV23 : Hid (NewR w1.heap.size w3 (.slice a2 L.length c2) L) := own_here HV2.out hb3
       have HB3 : Hid (Below w.heap.size w w3) := HB2.out.trans (hb3.mono HB2.out.size)
       clear hw3 hb3))
  obtain ⟨v0, hv0⟩ : ∃ v0, v0 = Value.slice a1 L.length c1 := ⟨_, rfl⟩
  have HO : Hid (Owned w3 v0 64 2 w3 (.slice a1 L.length c1) L.length) := ⟨⟨_, own_zero HV13.out⟩, .inl (by rw [hv0]), Kept.refl _ _⟩
  have H0 : Hid (∀ i, v0.ownBlock = some i → w.heap.size ≤ i ∧ i < w1.heap.size) := fun i hi => by
    rw [hv0] at hi
    have := own_type HV1.out i hi
    exact ⟨this.2.1, this.1⟩
  clear hv0 HV1 HV2 HV12 HR2 HB1 HB2
  go_loopw [8] (fun i wx => ∃ k : Nat, k ≤ L.length ∧ i = .int .i64 k ∧ Owned w3 v0 64 2 wx (.slice a1 L.length c1) L.length) (fun i _ => L.length - (intOf i).toNat)
  case atStart => exact ⟨0, by omega, rfl, HO.out⟩
  case round =>
    obtain ⟨k, hk, rfl, ho⟩ := hrel
    by_cases hlt : k < L.length
    · have hltz : (k : Int) < (L.length : Int) := by omega
      rcases ho.form with ⟨_, h0⟩ | ⟨g, c, e⟩
      · omega
      · injection e with e1 _ e2
        subst e1
        obtain ⟨⟨x0, hx0⟩, f0⟩ := ho.cell (j := k * 2) (by omega)
        obtain ⟨⟨x1, hx1⟩, f1⟩ := ho.cell (j := k * 2 + 1) (by omega)
        have HO2 : Hid (Owned w3 v0 64 2 ((wr.setCell ⟨g, k * 2, none⟩ (.int .i64 (-7))).setCell ⟨g, k * 2 + 1, none⟩ (.int .i64 0)) (.slice (some ⟨g, 0, none⟩) L.length c1) L.length) := (ho.set (k * 2) (.int .i64 (-7))).set (k * 2 + 1) (.int .i64 0)
        clear ho
        go_wp2
        exact ⟨⟨k + 1, by omega, by go_num, HO2.out⟩, by simp [intOf]; omega⟩
    · have hltz : ¬ (k : Int) < (L.length : Int) := by omega
      have HO1 : Hid (Owned w3 v0 64 2 wr (.slice a1 L.length c1) L.length) := ho
      clear ho HO
      go_wp2
      go_loopw [5, 9] (fun u i wx => ∃ k : Nat, k ≤ 20 ∧ i = .int .i64 k ∧ Owned w3 v0 64 2 wx u (L.length + k)) (fun _ i _ => 20 - (intOf i).toNat)
      case atStart => exact ⟨0, by omega, rfl, HO1.out⟩
      case round =>
        obtain ⟨m, hm, rfl, ho⟩ := hrel
        by_cases hm20 : m < 20
        · have hmz : (m : Int) < 20 := by omega
          obtain ⟨N, hN⟩ : ∃ N, N = L.length + m := ⟨_, rfl⟩
          rw [← hN] at ho
          have HNN : Hid (N = L.length + m) := hN
          have hlm : N ≤ 1000000 := by omega
          clear hN
          obtain ⟨wa, hwa⟩ : ∃ wa, wa = wr.alloc (.cells #[.int .i64 (-8), .int .i64 0] 64) := ⟨_, rfl⟩
          have hba : Below wr.heap.size wr wa := by rw [hwa]; exact (Below.refl _ _).alloc (Nat.le_refl _) _
          have hcell : wa.heap[wr.heap.size]? = some (.cells #[.int .i64 (-8), .int .i64 0] 64 (0, 0)) := by rw [hwa]; exact heap_alloc_last _ _
          obtain ⟨xs, hxs⟩ := ho.own
          have HW : Hid (wa.ownsRow 0 64 2 _ N xs) := own_here hxs hba
          have HC0 : Hid (wa.cell? ⟨wr.heap.size, 0, none⟩ = some (.int .i64 (-8))) := row_cell hcell 0
          have HC1 : Hid (wa.cell? ⟨wr.heap.size, 1, none⟩ = some (.int .i64 0)) := row_cell hcell 1
          have HBA : Hid (Below wr.heap.size wr wa) := hba
          have HO3 : Hid _ := ho
          clear ho hba hcell hxs
          subst hwa
          go_wp2_with (at_builtin; refine wpList_append_raw rfl _ _ rfl N u5 xs rfl HW.out wr.heap.size rfl (-8) 0 HC0.out HC1.out hlm ?_; intro g2 cap2 w5 ho5 hg5 hl5)
          have HO5 : Hid (Owned w3 v0 64 2 w5 (.slice (some ⟨g2, 0, none⟩) (N + 1) cap2) (N + 1)) := HO3.out.lies HBA.out ho5 hg5 hl5
          have e : L.length + (m + 1) = N + 1 := by have := HNN.out; omega
          exact ⟨⟨m + 1, by omega, by go_num, by rw [e]; exact HO5.out⟩, by simp [intOf]; omega⟩
        · have hmz : ¬ (m : Int) < 20 := by omega
          have hk3 := ho.kept
          have HB4 : Hid (Below w.heap.size w wr) := Kept.below HB3.out hk3 HB3.out.size (fun i hi => (H0.out i hi).1)
          have HV24 : Hid (NewR w1.heap.size wr (.slice a2 L.length c2) L) := own_kept HV23.out hk3 (fun i hi h0 => by
            have h1 := (own_type HV23.out i hi).2.1
            have h2 := (H0.out i h0).2
            omega)
          clear ho hk3
          by_cases hLM : L = M
          · have hd : decide (L = M) = true := decide_eq_true hLM
            have HS := sameRuns_any wr _ _ L M HV24.out.in (HV.out.here HB4.out) (by omega)
            rw [hd] at HS
            have HD : Hid (decide (L = M) = true) := hd
            clear hLM
            go_wp2_with (go_at_call 37; refine HS.mono ?_; rintro e w6 ⟨rfl, q6, hw6⟩
                         have HB6 : Hid (Below w.heap.size w w6) := by rw [hw6]; exact HB4.out.trans ⟨rfl, rfl, rfl, Nat.le_refl _, fun _ _ => rfl⟩
                         clear hw6)
            go_ret
            exact ⟨by first | rfl | (rw [HD.out]; rfl), HB6.out⟩
          · have hd : decide (L = M) = false := decide_eq_false hLM
            have HD : Hid (decide (L = M) = false) := hd
            clear hLM
            go_wp2
            go_ret
            exact ⟨by first | rfl | (rw [HD.out]; rfl), HB4.out⟩
theorem wpList_append_rawB {w : World} {ops : Array Oper} {rest : List Oper} {o : Oper} {a : Act} {Q : Exit → Act → World → Prop} (hgd : o.guard = none) (s x : Operand)
    (ho : o.op = .call { callee := .builtin .append, args := #[s, x], argTypes := #[37, 37] }) (n : Nat) (v : Value) (xs : List Value)
    (hs : a.eval s = v) (hv : w.ownsRow 0 5 1 v n xs) (g : Nat) (hx : a.eval x = .slice (some ⟨g, 0, none⟩) 1 1) (p : Int)
    (h0 : w.cell? ⟨g, 0, none⟩ = some (.int .u8 p)) (hn : n ≤ 1000000)
    (h : ∀ g' cap w', w'.ownsRow 0 5 1 (.slice (some ⟨g', 0, none⟩) (n + 1) cap) (n + 1) (xs ++ [.int .u8 p]) → w.grownBy w' v.ownBlock → (v.ownBlock = some g' ∨ g' = w.heap.size) → wpList Tryd.prog ops Q rest (a.put o.dst (.slice (some ⟨g', 0, none⟩) (n + 1) cap)) w') : wpList Tryd.prog ops Q (o :: rest) a w := by
  obtain ⟨i0, hi, hz0, hz1, hz2⟩ := infoB'
  refine wpList_append_lies w hgd s x 37 ho 0 5 i0 _ 1 1 Tryd.underlying37 hi hz0 hz1 hz2 rfl (by decide) v n xs hs hv ⟨g, 0, none⟩ 1 1 [.int .u8 p] hx rfl ?_ ?_ (by decide) (by unfold maxLen; omega) (by omega) (Nat.zero_le _) w.heap.size rfl ?_
  · intro j u hj
    rw [add_at, Nat.zero_add]
    rcases j with _ | j
    · simp at hj; rw [h0, hj]
    · simp at hj
  · intro u hu
    simp at hu
    rw [hu]; rfl
  · intro g' cap w' h2 h3 h4 _
    exact h g' cap w' h2 h3 h4
set_option maxHeartbeats 4000000 in
set_option maxRecDepth 100000 in
theorem lawBytes_any (w : World) (b : Nat) (s : Sp) (h : SpaceAt w b s) (ht : Tab w) (bs : List UInt8) :
    Calls Tryd.prog 14 #[.pointer (some ⟨b, 0, none⟩), .string (strB bs)] w fun e w' => e = .returned (.bool (decide (s.enc = bs))) ∧ Below w.heap.size w w' := by
  have HR1 := encode_any w b s h ht
  have hl := s.runs_length
  have h1 := h.ok.high
  have HR2 : Hid (∀ W, Below w.heap.size w W → Calls Tryd.prog 26 #[.pointer (some ⟨b, 0, none⟩)] W fun e w' => ∃ v, e = .returned v ∧ NewB W.heap.size w' v s.enc ∧ Below W.heap.size W w') := fun W hW => encode_any W b s (h.below hW) (ht.below hW)
  have hL : s.enc.length ≤ 600000 := by
    rw [Sp.enc]
    rw [List.length_append, be4_length, encR_length]
    omega
  generalize s.enc = L at HR1 HR2 hL
  have hq := strB_eq L bs
  clear h ht hl h1
  go_enter Tryd.func14, Tryd.ntmps14
  go_wp2_with (first
    | (go_at_call 26; refine (HR2.out w1 HB1.out).mono ?_; rintro e w2 ⟨v2, rfl, hv2, hb2⟩
       have HV2 : Hid (NewB w1.heap.size w2 v2 L) := hv2
       have hv12 := own_here HV1.out hb2
       have HV12 : Hid (NewB w.heap.size w2 _ L) := hv12
       have hcv := conv_new hv12
       have HB2 : Hid (Below w.heap.size w w2) := HB1.out.trans (hb2.mono HB1.out.size)
       obtain ⟨a2, c2, rfl⟩ := own_slice hv2
       clear hv2 hb2 hv12)
    | (go_at_call 26; refine HR1.mono ?_; rintro e w1 ⟨v1, rfl, hv1, hb1⟩
       have HV1 : Hid (NewB w.heap.size w1 v1 L) := hv1
       have HB1 : Hid (Below w.heap.size w w1) := hb1
       obtain ⟨a1, c1, rfl⟩ := own_slice hv1
       clear hv1 hb1))
  obtain ⟨v0, hv0⟩ : ∃ v0, v0 = Value.slice a1 L.length c1 := ⟨_, rfl⟩
  have HO : Hid (Owned w2 v0 5 1 w2 (.slice a1 L.length c1) L.length) := ⟨⟨_, own_zero HV12.out⟩, .inl (by rw [hv0]), Kept.refl _ _⟩
  have H0 : Hid (∀ i, v0.ownBlock = some i → w.heap.size ≤ i ∧ i < w1.heap.size) := fun i hi => by
    rw [hv0] at hi
    have := own_type HV1.out i hi
    exact ⟨this.2.1, this.1⟩
  clear hv0 HV1 HV12 HR2 HB1 hcv
  go_loopw [8] (fun i wx => ∃ k : Nat, k ≤ L.length ∧ i = .int .i64 k ∧ Owned w2 v0 5 1 wx (.slice a1 L.length c1) L.length) (fun i _ => L.length - (intOf i).toNat)
  case atStart => exact ⟨0, by omega, rfl, HO.out⟩
  case round =>
    obtain ⟨k, hk, rfl, ho⟩ := hrel
    by_cases hlt : k < L.length
    · have hltz : (k : Int) < (L.length : Int) := by omega
      rcases ho.form with ⟨_, h0⟩ | ⟨g, c, e⟩
      · omega
      · injection e with e1 _ e2
        subst e1
        obtain ⟨⟨x0, hx0⟩, f0⟩ := ho.cell (j := k) (by omega)
        have HO2 : Hid (Owned w2 v0 5 1 (wr.setCell ⟨g, k, none⟩ (.int .u8 7)) (.slice (some ⟨g, 0, none⟩) L.length c1) L.length) := ho.set k (.int .u8 7)
        clear ho
        go_wp2
        exact ⟨⟨k + 1, by omega, by go_num, HO2.out⟩, by simp [intOf]; omega⟩
    · have hltz : ¬ (k : Int) < (L.length : Int) := by omega
      have HO1 : Hid (Owned w2 v0 5 1 wr (.slice a1 L.length c1) L.length) := ho
      clear ho HO
      go_wp2
      go_loopw [5, 9] (fun u i wx => ∃ k : Nat, k ≤ 20 ∧ i = .int .i64 k ∧ Owned w2 v0 5 1 wx u (L.length + k)) (fun _ i _ => 20 - (intOf i).toNat)
      case atStart => exact ⟨0, by omega, rfl, HO1.out⟩
      case round =>
        obtain ⟨m, hm, rfl, ho⟩ := hrel
        by_cases hm20 : m < 20
        · have hmz : (m : Int) < 20 := by omega
          obtain ⟨N, hN⟩ : ∃ N, N = L.length + m := ⟨_, rfl⟩
          rw [← hN] at ho
          have HNN : Hid (N = L.length + m) := hN
          have hlm : N ≤ 1000000 := by omega
          clear hN
          obtain ⟨wa, hwa⟩ : ∃ wa, wa = wr.alloc (.cells #[.int .u8 8] 5) := ⟨_, rfl⟩
          have hba : Below wr.heap.size wr wa := by rw [hwa]; exact (Below.refl _ _).alloc (Nat.le_refl _) _
          have hcell : wa.heap[wr.heap.size]? = some (.cells #[.int .u8 8] 5 (0, 0)) := by rw [hwa]; exact heap_alloc_last _ _
          obtain ⟨xs, hxs⟩ := ho.own
          have HW : Hid (wa.ownsRow 0 5 1 _ N xs) := own_here hxs hba
          have HC0 : Hid (wa.cell? ⟨wr.heap.size, 0, none⟩ = some (.int .u8 8)) := row_cell hcell 0
          have HBA : Hid (Below wr.heap.size wr wa) := hba
          have HO3 : Hid _ := ho
          clear ho hba hcell hxs
          subst hwa
          go_wp2_with (at_builtin; refine wpList_append_rawB rfl _ _ rfl N u5 xs rfl HW.out wr.heap.size rfl 8 HC0.out hlm ?_; intro g2 cap2 w5 ho5 hg5 hl5)
          have HO5 : Hid (Owned w2 v0 5 1 w5 (.slice (some ⟨g2, 0, none⟩) (N + 1) cap2) (N + 1)) := HO3.out.lies HBA.out ho5 hg5 hl5
          have e : L.length + (m + 1) = N + 1 := by have := HNN.out; omega
          exact ⟨⟨m + 1, by omega, by go_num, by rw [e]; exact HO5.out⟩, by simp [intOf]; omega⟩
        · have hmz : ¬ (m : Int) < 20 := by omega
          have hk3 := ho.kept
          have HB4 : Hid (Below w.heap.size w wr) := Kept.below HB2.out hk3 HB2.out.size (fun i hi => (H0.out i hi).1)
          have hv24 : NewB w1.heap.size wr (.slice a2 L.length c2) L := own_kept HV2.out hk3 (fun i hi h0 => by
            have h1 := (own_type HV2.out i hi).2.1
            have h2 := (H0.out i h0).2
            omega)
          have hcv2 := conv_new hv24
          clear ho hk3 hv24
          by_cases hLM : L = bs
          · have hd : decide (L = bs) = true := decide_eq_true hLM
            rw [hd] at hq
            have HD : Hid (decide (L = bs) = true) := hd
            clear hLM
            go_wp2
            go_ret
            exact ⟨by first | rfl | (rw [HD.out]; rfl), HB4.out⟩
          · have hd : decide (L = bs) = false := decide_eq_false hLM
            rw [hd] at hq
            have HD : Hid (decide (L = bs) = false) := hd
            clear hLM
            go_wp2
            go_ret
            exact ⟨by first | rfl | (rw [HD.out]; rfl), HB4.out⟩
end Go.Proofs.YtlokplnapaghhaaDoor
