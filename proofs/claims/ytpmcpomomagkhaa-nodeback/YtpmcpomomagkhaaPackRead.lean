import Derived.Test.YtpmcpomomagkhaaEncN
/- The reader's take; number, numberAt, kidsLong, msgLong. -/
namespace Go.Proofs.Ytpmcpomomagkhaa
open Go.RowKit

/-- The reader's block. -/
structure NRBox (w : World) (g : Nat) (v : Value) (sh : Bool) : Prop where
  row : w.heap[g]? = some (.cells #[v, .bool sh] 81 (0, 0))
theorem NRBox.cell {w : World} {g : Nat} {v : Value} {sh : Bool} (h : NRBox w g v sh) : w.cell? ⟨g, 0, none⟩ = some v ∧ w.cell? ⟨g, 1, none⟩ = some (.bool sh) := ⟨by rw [row_cell h.row]; rfl, by rw [row_cell h.row]; rfl⟩
theorem NRBox.open {w : World} {g : Nat} {v : Value} {sh : Bool} (h : NRBox w g v sh) (i : Nat) : w.frozen? ⟨g, i, none⟩ = false := row_frozen h.row _
theorem NRBox.lt {w : World} {g : Nat} {v : Value} {sh : Bool} (h : NRBox w g v sh) : g < w.heap.size := (Array.getElem?_eq_some_iff.1 h.row).1
theorem NRBox.keep {T B : Nat} {w w' : World} {g : Nat} {v : Value} {sh : Bool} (h : NRBox w g v sh) (hk : Keep T B w w') (hT : 81 ≠ T) : NRBox w' g v sh := ⟨hk.typ _ _ _ _ hT h.row⟩
theorem NRBox.here {w w' : World} {g : Nat} {v : Value} {sh : Bool} (h : NRBox w g v sh) (hb : Below w.heap.size w w') : NRBox w' g v sh := ⟨by rw [hb.block g h.lt]; exact h.row⟩
/-- The reader reads: its block, and its rest. -/
structure NRd (B : Nat) (w : World) (g : Nat) (s : Key × Bool) : Prop where
  is : ∃ v, NRBox w g v s.2 ∧ KeyIn B w v s.1
theorem NRd.keep {T B : Nat} {w w' : World} {g : Nat} {s : Key × Bool} (h : NRd B w g s) (hk : Keep T B w w') (hT : 81 ≠ T) : NRd B w' g s := by
  obtain ⟨v, h1, h2⟩ := h.is
  exact ⟨v, h1.keep hk hT, h2.below hk.low⟩
theorem NRd.here {B : Nat} {w w' : World} {g : Nat} {s : Key × Bool} (h : NRd B w g s) (hB : B ≤ w.heap.size) (hb : Below w.heap.size w w') : NRd B w' g s := by
  obtain ⟨v, h1, h2⟩ := h.is
  exact ⟨v, h1.here hb, h2.below (hb.mono hB)⟩
structure NTakePost (B : Nat) (w : World) (g : Nat) (s : Key × Bool) (n : Nat) (e : Ending) (w' : World) : Prop where
  is : ∃ u, e = .returned u ∧ KeyIn B w' u (takeS s n).1 ∧ NRd B w' g (takeS s n).2 ∧ Keep 81 B w w'
set_option maxHeartbeats 800000 in
set_option maxRecDepth 100000 in
theorem ntake_any {B : Nat} {w : World} {g : Nat} {s : Key × Bool} {n : Nat} (hr : NRd B w g s) (hB : B ≤ g) (hn : n ≤ 1000000000000) :
    Calls Try.prog 44 #[.pointer (some ⟨g, 0, none⟩), .int .i64 n] w fun e w' => NTakePost B w g s n e w' := by
  obtain ⟨r, sh⟩ := s
  obtain ⟨v, hbx, hv⟩ := hr.is
  simp only at hbx hv
  obtain ⟨a, c, rfl⟩ := hv.form
  have hsh := hv.short
  have HV : Hid (KeyIn B w (.slice a r.length c) r) := hv
  have HR : Hid (NRBox w g (.slice a r.length c) sh) := hbx
  obtain ⟨k0, k1⟩ := hbx.cell
  have f0 := hbx.open 0
  have f1 := hbx.open 1
  have hnc : r.length ≤ c := by
    obtain ⟨⟨a', c', e1, _, hc, hn⟩, _⟩ := hv
    cases e1; exact hc
  clear hr hv hbx
  by_cases hlt : r.length < n
  · have hz : (r.length : Int) < (n : Int) := by omega
    have HP : Hid (NTakePost B w g (r, sh) n (.returned (.slice none 0 0)) (w.setCell ⟨g, 1, none⟩ (.bool true))) := by
      have hk : Keep 81 B w (w.setCell ⟨g, 1, none⟩ (.bool true)) := keep_set HR.out.row hB _
      refine ⟨_, rfl, ?_, ?_, hk⟩
      · rw [takeS, if_pos hlt]; exact KeyIn.nil' _ _
      · rw [takeS, if_pos hlt]; exact ⟨_, ⟨heap_set_same _ HR.out.row⟩, HV.out.below hk.low⟩
    go_enter Try.func44, Try.ntmps44
    go_wp2
    go_ret
    exact HP.out
  · have hz : ¬ (r.length : Int) < (n : Int) := by omega
    have hn2 : n ≤ r.length := by omega
    have hn3 : n ≤ c := by omega
    have hnz : (n : Int) ≤ (r.length : Int) := by omega
    have HE : Hid (∀ v', KeyIn B w v' (r.drop n) → NTakePost B w g (r, sh) n (.returned (.slice a n c)) (w.setCell ⟨g, 0, none⟩ v')) := fun v' h' => by
      have hk : Keep 81 B w (w.setCell ⟨g, 0, none⟩ v') := keep_set HR.out.row hB _
      refine ⟨_, rfl, ?_, ?_, hk⟩
      · rw [takeS, if_neg hlt]; exact (HV.out.head n hn2 rfl).below hk.low
      · rw [takeS, if_neg hlt]; exact ⟨_, ⟨heap_set_same _ HR.out.row⟩, h'.below hk.low⟩
    obtain ⟨HC1, HC2⟩ := HV.out.cut n hn2
    have HC1' : Hid _ := HC1
    have HC2' : Hid _ := HC2
    clear HC1 HC2 hlt
    by_cases hcn : c = n
    · go_enter Try.func44, Try.ntmps44
      go_wp2
      go_ret
      subst hcn
      exact HE.out _ (by have := HC1'.out rfl; rw [Nat.sub_self] at this; exact this)
    · go_enter Try.func44, Try.ntmps44
      go_wp2
      go_ret
      exact HE.out _ (HC2'.out hcn)

set_option maxHeartbeats 800000 in
set_option maxRecDepth 100000 in
theorem nnumber_any {w : World} {v : Value} {b : Key} (h : KeyAt w v b) (hl : b.length ≤ 4) :
    Calls Try.prog 46 #[v] w fun r w' => r = .returned (.int .i64 (num b : Nat)) ∧ w' = w := by
  obtain ⟨a, c, rfl⟩ := h.in.form
  have HB : Hid (BytesAt w.heap.size w a b) := by
    obtain ⟨⟨a', c', e, hb, _⟩, _⟩ := h; cases e; exact hb
  clear h
  go_enter Try.func46, Try.ntmps46
  go_wp2
  go_loopw [3, 8] (fun n i wx => ∃ (k N : Nat), k ≤ b.length ∧ i = .int .i64 k ∧ n = .int .i64 N ∧ N = num (b.take k) ∧ wx = w) (fun _ i _ => b.length - (intOf i).toNat)
  case atStart => exact ⟨0, 0, by omega, rfl, rfl, by simp [num], rfl⟩
  case round =>
    obtain ⟨k, N, hk, rfl, rfl, hN, rfl⟩ := hrel
    have HN : Hid (N = num (b.take k)) := hN
    clear hN
    by_cases hlt : k < b.length
    · have hz : (k : Int) < (b.length : Int) := by omega
      obtain ⟨c, hc⟩ : ∃ c, b[k]? = some c := ⟨_, List.getElem?_eq_getElem hlt⟩
      obtain ⟨g, off, rfl, _, hcell⟩ := HB.out k c hc
      have hcl := u8_lt c
      have HS : Hid (num (b.take (k + 1)) = N * 256 + c.toNat) := by rw [Hid, Br.num_take b k c hc, HN.out]
      have hNb : N < 16777216 := by
        have h1 := num_bound (b.take k)
        rw [List.length_take, Nat.min_eq_left (by omega)] at h1
        have h2 : 256 ^ k ≤ 256 ^ 3 := Nat.pow_le_pow_right (by decide) (by omega)
        rw [HN.out]
        omega
      clear hc
      go_wp2
      exact ⟨⟨k + 1, N * 256 + c.toNat, by omega, by go_num, by rw [Br.or_num N c hNb], HS.out.symm, by first | trivial | rfl⟩, by simp [intOf]; omega⟩
    · have hz : ¬ (k : Int) < (b.length : Int) := by omega
      have HE : Hid (N = num b) := by rw [Hid, HN.out, List.take_of_length_le (by omega)]
      go_wp2
      go_ret
      exact ⟨by rw [HE.out]; rfl, rfl⟩

theorem numAt_lt (b : Key) (i : Nat) : numAt b i 2 < 65536 := by
  unfold numAt
  split
  · decide
  · have := num_bound ((b.drop i).take 2)
    have h2 : ((b.drop i).take 2).length ≤ 2 := List.length_take_le _ _
    have h3 : 256 ^ ((b.drop i).take 2).length ≤ 256 ^ 2 := Nat.pow_le_pow_right (by decide) h2
    omega
theorem kidsL_le (b : Key) (n s : Nat) : kidsL b n s ≤ s + n * 65537 := by
  induction n generalizing s with
  | zero => simp [kidsL]
  | succ n ih =>
    unfold kidsL
    have h1 := ih (s + 2 + numAt b s 2)
    have h2 := numAt_lt b s
    omega
theorem kidsLong_le (b : Key) : kidsLong b ≤ 10000000000 := by
  unfold kidsLong
  have h1 := numAt_lt b 0
  have h2 := kidsL_le b (numAt b 0 2 - 1) (2 + 4 * numAt b 0 2)
  have h3 : (numAt b 0 2 - 1) * 65537 ≤ 65535 * 65537 := Nat.mul_le_mul_right _ (by omega)
  omega

set_option maxHeartbeats 800000 in
set_option maxRecDepth 100000 in
theorem numberAt_any {w : World} {v : Value} {b : Key} {i : Nat} (h : KeyAt w v b) (hi : i ≤ 100000000000) :
    Calls Try.prog 63 #[v, .int .i64 (i : Nat), .int .i64 2] w fun r w' => r = .returned (.int .i64 (numAt b i 2 : Nat)) ∧ w' = w := by
  obtain ⟨a, c, rfl⟩ := h.in.form
  have hsh := h.short
  by_cases hlt : b.length < i + 2
  · have hz : (b.length : Int) < (i : Int) + 2 := by omega
    have HR : Hid (numAt b i 2 = 0) := by unfold Hid numAt; rw [if_pos hlt]
    clear h
    go_enter Try.func63, Try.ntmps63
    go_wp2
    go_ret
    exact ⟨by rw [HR.out]; rfl, rfl⟩
  · have hz : ¬ (b.length : Int) < (i : Int) + 2 := by omega
    obtain ⟨g, o, hc, rfl⟩ : ∃ g o, b.length ≤ c ∧ a = some ⟨g, o, none⟩ := by
      obtain ⟨⟨_, _, ek, hbb, hcap, _⟩, _⟩ := h
      cases ek
      obtain ⟨g, o, e5, _⟩ := hbb 0 _ (List.getElem?_eq_getElem (by omega))
      exact ⟨g, o, hcap, e5⟩
    have hci : ¬ c = i := by omega
    have hz2 : (i : Int) + 2 ≤ (c : Int) := by omega
    have hz3 : (i : Int) ≤ (i : Int) + 2 := by omega
    have HR : Hid (numAt b i 2 = num ((b.drop i).take 2)) := by unfold Hid numAt; rw [if_neg hlt]
    have HK : Hid (KeyAt w (.slice (some ⟨g, o + i, none⟩) 2 (c - i)) ((b.drop i).take 2)) := by
      have h1 := (((toBrIn h.in).drop i (by omega)).take 2 (c - i) (by rw [List.length_drop]; omega) (by omega) (Nat.le_refl _))
      exact (ofBrIn h1).at (Nat.le_refl _)
    have HN := nnumber_any HK.out (by rw [List.length_take]; omega)
    clear h
    go_enter Try.func63, Try.ntmps63
    go_wp2_with fail
    refine HN.mono ?_
    rintro r w1 ⟨rfl, hw1⟩
    obtain rfl := hw1.symm
    go_wp2
    go_ret
    exact ⟨by rw [HR.out]; rfl, rfl⟩

set_option maxHeartbeats 800000 in
set_option maxRecDepth 100000 in
theorem msgLong_any {w : World} {v : Value} {b : Key} (h : KeyAt w v b) :
    Calls Try.prog 48 #[v] w fun r w' => r = .returned (.int .i64 (msgLong b : Nat)) ∧ w' = w := by
  have H9 := numberAt_any (i := 9) h (by decide)
  have H11 := numberAt_any (i := 11) h (by decide)
  have h9 := numAt_lt b 9
  have h11 := numAt_lt b 11
  have HR : Hid (msgLong b = 13 + numAt b 9 2 + numAt b 11 2) := rfl
  obtain ⟨A, hA⟩ : ∃ A, A = numAt b 9 2 := ⟨_, rfl⟩
  obtain ⟨B, hB⟩ : ∃ B, B = numAt b 11 2 := ⟨_, rfl⟩
  rw [← hA] at H9 h9 HR
  rw [← hB] at H11 h11 HR
  rw [HR.out]
  obtain ⟨a, c, e⟩ := h.in.form
  subst e
  clear h hA hB HR
  go_enter Try.func48, Try.ntmps48
  go_wp2_with fail
  refine H9.mono ?_
  rintro r w1 ⟨rfl, hw1⟩
  obtain rfl := hw1.symm
  go_wp2_with fail
  refine H11.mono ?_
  rintro r w2 ⟨rfl, hw2⟩
  obtain rfl := hw2.symm
  go_wp2
  go_ret
  exact ⟨ret_int (by omega), rfl⟩

theorem kidsL_stop (b : Key) (s : Nat) : kidsL b 0 s = s := rfl

set_option maxHeartbeats 1600000 in
set_option maxRecDepth 100000 in
theorem kidsLong_any {w : World} {v : Value} {b : Key} (h : KeyAt w v b) :
    Calls Try.prog 45 #[v] w fun r w' => r = .returned (.int .i64 (kidsLong b : Nat)) ∧ w' = w := by
  have HN : Hid (∀ i, i ≤ 100000000000 → Calls Try.prog 63 #[v, .int .i64 (i : Nat), .int .i64 2] w fun r w' => r = .returned (.int .i64 (numAt b i 2 : Nat)) ∧ w' = w) := fun i hi => numberAt_any h hi
  have hC := numAt_lt b 0
  have HR : Hid (kidsLong b = kidsL b (numAt b 0 2 - 1) (2 + 4 * numAt b 0 2)) := rfl
  have HC := HN.out 0 (by decide)
  obtain ⟨C, hC0⟩ : ∃ C, C = numAt b 0 2 := ⟨_, rfl⟩
  rw [← hC0] at HC hC HR
  obtain ⟨a, c, e⟩ := h.in.form
  subst e
  clear h hC0
  go_enter Try.func45, Try.ntmps45
  go_wp2_with fail
  refine HC.mono ?_
  rintro r w1 ⟨rfl, hw1⟩
  obtain rfl := hw1.symm
  clear HC
  go_wp2_with fail
  go_loopw [4, 12] (fun s i wx => ∃ (k L : Nat), k ≤ C - 1 ∧ i = .int .i64 k ∧ s = .int .i64 L ∧ kidsL b (C - 1 - k) L = kidsLong b ∧ L ≤ 262142 + k * 65537 ∧ wx = w) (fun _ i _ => C - 1 - (intOf i).toNat)
  case atStart => exact ⟨0, 2 + 4 * C, by omega, rfl, by go_num, by rw [HR.out, Nat.sub_zero], by omega, rfl⟩
  case round =>
    obtain ⟨k, L, hk, rfl, rfl, hL, hLb, hw⟩ := hrel
    subst hw
    have HL : Hid (kidsL b (C - 1 - k) L = kidsLong b) := hL
    have hkm : k * 65537 ≤ 65535 * 65537 := Nat.mul_le_mul_right _ (by omega)
    clear hL
    by_cases hlt : k < C - 1
    · have hz : (k : Int) < (C : Int) - 1 := by omega
      have HL2 : Hid (kidsL b (C - 1 - (k + 1)) (L + 2 + numAt b L 2) = kidsLong b) := by
        have := HL.out
        rw [show C - 1 - k = (C - 1 - (k + 1)) + 1 by omega] at this
        exact this
      have hN := numAt_lt b L
      have HNL := HN.out L (by omega)
      obtain ⟨N, hN0⟩ : ∃ N, N = numAt b L 2 := ⟨_, rfl⟩
      rw [← hN0] at HL2 hN HNL
      have hk3 : (k + 1) * 65537 = k * 65537 + 65537 := by omega
      clear hN0
      go_wp2_with fail
      refine HNL.mono ?_
      rintro r w2 ⟨rfl, hw2⟩
      obtain rfl := hw2.symm
      go_wp2
      exact ⟨⟨k + 1, L + 2 + N, by omega, by go_num, by go_num, HL2.out, by omega, by first | rfl | trivial⟩, by simp [intOf]; omega⟩
    · have hz : ¬ (k : Int) < (C : Int) - 1 := by omega
      have HE : Hid (L = kidsLong b) := by
        have := HL.out
        rw [show C - 1 - k = 0 by omega] at this
        exact this
      go_wp2
      go_ret
      exact ⟨by rw [← HE.out]; rfl, rfl⟩
end Go.Proofs.Ytpmcpomomagkhaa

/- What is read of bytes: where it fails there is no node. -/
namespace Go.Proofs.Ytpmcpomomagkhaa

/-- These are not the bytes of a node that may be. -/
def NoNode (z : Int) (b : Key) : Prop := ∀ n, checkN z n = 0 → encN n ≠ b
theorem decR_no {z : Int} (h : Sized z) {b : Key} (hd : decB z b = none) : decR z b = ([], 73) := by unfold decR; rw [if_neg (by simpa using h), hd]
theorem decR_yes {z : Int} (h : Sized z) {b : Key} {l : List Ms} (hd : decB z b = some l) : decR z b = (l, 0) := by unfold decR; rw [if_neg (by simpa using h), hd]
theorem kids_fail {z : Int} {b : Key} (h : decK z (takeS (b, false) (kidsLong b)).1 = none) : NoNode z b := by
  intro n hn he
  obtain ⟨h1, _, _, _⟩ := checkN_ok hn
  have hk : kidsLong b = (encK n.k).length := by rw [← he]; exact kidsLong_enc h1 _
  have ht : (takeS (b, false) (kidsLong b)).1 = encK n.k := by
    unfold takeS
    rw [hk, if_neg (by rw [← he]; simp [encN])]
    simp only
    rw [← he, encN, List.take_left' rfl]
  rw [ht, decK_iff.2 ⟨h1, rfl⟩] at h
  cases h
theorem encK_pos (d : Kd) : 2 ≤ (encK d).length := by rw [encK_length]; unfold bytesK; omega
theorem kids_ok {z : Int} {b : Key} {d : Kd} (h : decK z (takeS (b, false) (kidsLong b)).1 = some d) : checkK z d = 0 ∧ takeS (b, false) (kidsLong b) = (encK d, (b.drop (encK d).length, false)) ∧ b = encK d ++ b.drop (encK d).length := by
  obtain ⟨h1, h2⟩ := decK_iff.1 h
  have hp := encK_pos d
  unfold takeS at h2 ⊢
  split at h2
  · simp only at h2; rw [h2] at hp; simp at hp
  · rename_i hl
    simp only at h2
    have hlen : (encK d).length = kidsLong b := by rw [h2, List.length_take]; simp only at hl; omega
    rw [if_neg hl]
    refine ⟨h1, ?_, ?_⟩
    · rw [hlen, h2]
    · conv => lhs; rw [← List.take_append_drop (kidsLong b) b]
      rw [← h2, hlen]
theorem four_fail {z : Int} {b R : Key} {d : Kd} (h1 : checkK z d = 0) (hb : b = encK d ++ R) (hl : R.length < 4) : NoNode z b := by
  intro n hn he
  obtain ⟨h2, _, _, _⟩ := checkN_ok hn
  have r1 := check_enc h2 (four n.ms.length ++ layL n.ms)
  have r2 := check_enc h1 R
  have e : encK n.k ++ (four n.ms.length ++ layL n.ms) = encK d ++ R := he.trans hb
  rw [e, r2] at r1
  simp only [Option.some.injEq, Prod.mk.injEq] at r1
  rw [r1.2, List.length_append, four_length] at hl
  omega
theorem four_take (R : Key) (h : 4 ≤ R.length) : four (num (R.take 4)) = R.take 4 ∧ num (R.take 4) < 4294967296 := by
  obtain ⟨x, y, u, v, hxy⟩ : ∃ x y u v, R.take 4 = [x, y, u, v] := by
    match hh : R.take 4, (show (R.take 4).length = 4 by rw [List.length_take]; omega) with
    | [x, y, u, v], _ => exact ⟨x, y, u, v, rfl⟩
  have hb := num_bound (R.take 4)
  rw [hxy] at hb ⊢
  exact ⟨four_num _ _ _ _, by simpa using hb⟩
theorem four_ok {z : Int} {b R : Key} {d : Kd} (h1 : checkK z d = 0) (hb : b = encK d ++ R) (hl : 4 ≤ R.length) : ReadN z b (num (R.take 4)) d [] (R.drop 4) := by
  obtain ⟨h2, h3⟩ := four_take R hl
  exact ⟨h1, by rw [h2, hb]; simp [layL], fun m hm => by simp at hm, h3⟩
theorem lay1_pos (m : Ms) : 13 ≤ (lay1 m).length := by rw [lay1_length]; omega
theorem msg_fail {z : Int} {b : Key} {N : Nat} {d : Kd} {l : List Ms} {rest : Key} (h : ReadN z b N d l rest) (hl : l.length < N) (hd : decB z (four 1 ++ (takeS (rest, false) (msgLong rest)).1) = none) : NoNode z b := by
  intro n hn he
  obtain ⟨m, r, hr, hm⟩ := h.next hl hn he
  have hk : msgLong rest = (lay1 m).length := by rw [hr]; exact msgLong_lay hm r
  have ht : (takeS (rest, false) (msgLong rest)).1 = lay1 m := by
    unfold takeS
    rw [hk, if_neg (by rw [hr]; simp)]
    simp only
    rw [hr, List.take_left' rfl]
  rw [ht, dec_one hm] at hd
  cases hd
theorem msg_ok {z : Int} {b : Key} {N : Nat} {d : Kd} {l L : List Ms} {rest : Key} (h : ReadN z b N d l rest) (hd : decB z (four 1 ++ (takeS (rest, false) (msgLong rest)).1) = some L) : ∃ m r, L = [m] ∧ (takeS (rest, false) (msgLong rest)).2 = (r, false) ∧ ReadN z b N d (l ++ [m]) r := by
  obtain ⟨m, e1, e2, e3⟩ := one_dec hd
  have hp := lay1_pos m
  unfold takeS at e3 ⊢
  split at e3
  · simp only at e3; rw [e3] at hp; simp at hp
  · rename_i hs
    rw [if_neg hs]
    simp only at e3
    refine ⟨m, _, e1, rfl, h.step e2 ?_⟩
    rw [e3, List.take_append_drop]
theorem ReadN.few {z : Int} {b : Key} {N : Nat} {d : Kd} {l : List Ms} {rest : Key} (h : ReadN z b N d l rest) : 13 * l.length ≤ b.length := by
  have h1 := lay_sizes h.may
  have h2 : 13 * l.length ≤ sizesM l := by
    have : ∀ M : List Ms, 13 * M.length ≤ sizesM M := by
      intro M
      induction M with
      | nil => simp [sizesM]
      | cons m r ih => rw [sizesM_cons, List.length_cons]; unfold sizeM; omega
    exact this l
  have h3 := congrArg List.length h.is
  simp only [List.length_append] at h3
  omega
theorem ReadN.size {z : Int} {b : Key} {N : Nat} {d : Kd} {l : List Ms} {rest : Key} (h : ReadN z b N d l rest) : sizesM l ≤ b.length := by
  have h1 := lay_sizes h.may
  have h3 := congrArg List.length h.is
  simp only [List.length_append] at h3
  omega
theorem read_end {z : Int} {b : Key} {N : Nat} {d : Kd} {l : List Ms} {rest : Key} (h : ReadN z b N d l rest) (hl : l.length = N) (hr : rest ≠ []) : NoNode z b := by
  intro n hn he
  subst hl
  exact hr (h.all hn he).1
theorem read_done {z : Int} {b : Key} {N : Nat} {d : Kd} {l : List Ms} (h : ReadN z b N d l []) (hl : l.length = N) : encN ⟨d, l⟩ = b ∧ ∀ n, checkN z n = 0 → encN n = b → n = ⟨d, l⟩ := by
  subst hl
  exact ⟨h.done, fun n hn he => (h.all hn he).2⟩
end Go.Proofs.Ytpmcpomomagkhaa
