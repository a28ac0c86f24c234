/- How many bits of a word are 1, as math/bits reckons it: byte by byte. -/
import Derived.Test.YtlokplnapaghhaaDoorSp
namespace Go.Proofs.YtlokplnapaghhaaDoor

theorem and_split (a b c d : Nat) (ha : a < 256) (hc : c < 256) : (a + 256 * b) &&& (c + 256 * d) = (a &&& c) + 256 * (b &&& d) := by
  have h1 := Nat.and_mod_two_pow (a := a + 256 * b) (b := c + 256 * d) (n := 8)
  have h2 := Nat.and_div_two_pow (a := a + 256 * b) (b := c + 256 * d) (n := 8)
  have e1 : (a + 256 * b) % 2 ^ 8 = a := by omega
  have e2 : (c + 256 * d) % 2 ^ 8 = c := by omega
  have e3 : (a + 256 * b) / 2 ^ 8 = b := by omega
  have e4 : (c + 256 * d) / 2 ^ 8 = d := by omega
  rw [e1, e2] at h1
  rw [e3, e4] at h2
  omega

/-- Bytes as a number, the lowest first. -/
def val : List Nat → Nat
  | [] => 0
  | b :: r => b + 256 * val r
def allB (L : List Nat) : Prop := ∀ b ∈ L, b < 256
def rep (m : Nat) : Nat → Nat
  | 0 => 0
  | n + 1 => m + 256 * rep m n

theorem byteA : ∀ b : Fin 256, ∀ e : Fin 2, ((b.val / 2 + 128 * e.val) &&& 85) = ((b.val / 2) &&& 85) := by decide +kernel
theorem byteB : ∀ b : Fin 256, ∀ e : Fin 4, ((b.val / 4 + 64 * e.val) &&& 51) = ((b.val / 4) &&& 51) := by decide +kernel
def fA (b : Nat) : Nat := (b / 2 &&& 85) + (b &&& 85)
def fB (b : Nat) : Nat := (b / 4 &&& 51) + (b &&& 51)
def fC (b : Nat) : Nat := (b / 16 + b) &&& 15
theorem stepA : ∀ (L : List Nat), allB L → (val L / 2 &&& rep 85 L.length) + (val L &&& rep 85 L.length) = val (L.map fA)
  | [], _ => rfl
  | b :: r, h => by
    have hb : b < 256 := h b (by simp)
    have ih := stepA r (fun x hx => h x (by simp [hx]))
    have e1 : (b + 256 * val r) / 2 = (b / 2 + 128 * (val r % 2)) + 256 * (val r / 2) := by omega
    have hm := byteA ⟨b, hb⟩ ⟨val r % 2, by omega⟩
    simp only at hm
    simp only [val, List.length_cons, rep, List.map_cons]
    rw [e1, and_split _ _ _ _ (by omega) (by decide), and_split _ _ _ _ hb (by decide), hm, ← ih]
    unfold fA
    omega
theorem stepB : ∀ (L : List Nat), allB L → (val L / 4 &&& rep 51 L.length) + (val L &&& rep 51 L.length) = val (L.map fB)
  | [], _ => rfl
  | b :: r, h => by
    have hb : b < 256 := h b (by simp)
    have ih := stepB r (fun x hx => h x (by simp [hx]))
    have e1 : (b + 256 * val r) / 4 = (b / 4 + 64 * (val r % 4)) + 256 * (val r / 4) := by omega
    have hm := byteB ⟨b, hb⟩ ⟨val r % 4, by omega⟩
    simp only at hm
    simp only [val, List.length_cons, rep, List.map_cons]
    rw [e1, and_split _ _ _ _ (by omega) (by decide), and_split _ _ _ _ hb (by decide), hm, ← ih]
    unfold fB
    omega
def low4 (L : List Nat) : Prop := ∀ b ∈ L, b / 16 ≤ 4 ∧ b % 16 ≤ 4
theorem byteC : ∀ b : Fin 256, ∀ e : Fin 5, ((b.val / 16 + b.val + 16 * e.val) &&& 15) = fC b.val := by decide +kernel
theorem stepC : ∀ (L : List Nat), low4 L → (val L / 16 + val L &&& rep 15 L.length) = val (L.map fC)
  | [], _ => rfl
  | b :: r, h => by
    have hb := h b (by simp)
    have ih := stepC r (fun x hx => h x (by simp [hx]))
    have hr : val r % 16 ≤ 4 := by
      cases r with
      | nil => simp [val]
      | cons c q =>
        have := h c (by simp)
        simp only [val]
        omega
    have e1 : (b + 256 * val r) / 16 + (b + 256 * val r) = (b / 16 + b + 16 * (val r % 16)) + 256 * (val r / 16 + val r) := by omega
    have hm := byteC ⟨b, by omega⟩ ⟨val r % 16, by omega⟩
    simp only at hm
    simp only [val, List.length_cons, rep, List.map_cons]
    rw [e1, and_split _ _ _ _ (by omega) (by decide), hm, ih]
theorem low4_room : ∀ (L : List Nat), low4 L → val L / 16 + val L < 256 ^ L.length
  | [], _ => by simp [val]
  | b :: r, h => by
    have hb := h b (by simp)
    have ih := low4_room r (fun x hx => h x (by simp [hx]))
    have hr : val r % 16 ≤ 4 := by
      cases r with
      | nil => simp [val]
      | cons c q =>
        have := h c (by simp)
        simp only [val]
        omega
    have e1 : (b + 256 * val r) / 16 + (b + 256 * val r) = (b / 16 + b + 16 * (val r % 16)) + 256 * (val r / 16 + val r) := by omega
    simp only [val, List.length_cons, Nat.pow_succ]
    rw [e1]
    omega
theorem byteAll : ∀ b : Fin 256, fA b.val < 256 ∧ (fB (fA b.val)) / 16 ≤ 4 ∧ (fB (fA b.val)) % 16 ≤ 4 ∧ fC (fB (fA b.val)) ≤ 8 ∧ fC (fB (fA b.val)) = cnt (fun j => b.val.testBit j) 8 := by decide +kernel

def bytesOf : Nat → Nat → List Nat
  | 0, _ => []
  | n + 1, x => x % 256 :: bytesOf n (x / 256)
theorem val_bytesOf : ∀ (n x : Nat), x < 256 ^ n → val (bytesOf n x) = x
  | 0, x, h => by simp at h; subst h; rfl
  | n + 1, x, h => by
    have : x / 256 < 256 ^ n := by rw [Nat.pow_succ] at h; omega
    simp only [bytesOf, val]
    rw [val_bytesOf n _ this]
    omega
theorem allB_bytesOf : ∀ (n x : Nat), allB (bytesOf n x)
  | 0, _ => fun b hb => by simp [bytesOf] at hb
  | n + 1, x => fun b hb => by
    simp only [bytesOf, List.mem_cons] at hb
    rcases hb with rfl | hb
    · omega
    · exact allB_bytesOf n _ b hb
theorem length_bytesOf : ∀ (n x : Nat), (bytesOf n x).length = n
  | 0, _ => rfl
  | n + 1, x => by simp [bytesOf, length_bytesOf n]

/-- The bits of a number that are 1. -/
def pc (x : Nat) (n : Nat) : Nat := cnt (fun j => x.testBit j) n
theorem cnt_add (U : Nat → Bool) (m n : Nat) : cnt U (m + n) = cnt U m + cnt (fun j => U (m + j)) n := by
  induction n with
  | zero => rfl
  | succ n ih => rw [← Nat.add_assoc, cnt, cnt, ih]; omega
theorem pc_step (x n : Nat) : pc x (8 + n) = cnt (fun j => (x % 256).testBit j) 8 + pc (x / 256) n := by
  unfold pc
  rw [cnt_add]
  congr 1
  · apply cnt_ext
    intro k hk
    rw [show (256 : Nat) = 2 ^ 8 by rfl, Nat.testBit_mod_two_pow]
    simp [hk]
  · apply cnt_ext
    intro k _
    rw [show (256 : Nat) = 2 ^ 8 by rfl, Nat.testBit_div_two_pow, Nat.add_comm]
theorem pc_bytes : ∀ (n x : Nat), pc x (8 * n) = ((bytesOf n x).map fun b => cnt (fun j => b.testBit j) 8).sum
  | 0, _ => rfl
  | n + 1, x => by
    rw [show 8 * (n + 1) = 8 + 8 * n by omega, pc_step, pc_bytes n]
    simp [bytesOf]

/-- The whole reckoning. -/
def onesA (x : Nat) : Nat := (x / 2 &&& 6148914691236517205) + (x &&& 6148914691236517205)
def onesB (x : Nat) : Nat := (x / 4 &&& 3689348814741910323) + (x &&& 3689348814741910323)
def onesC (x : Nat) : Nat := (x / 16 + x) &&& 1085102592571150095
theorem rep85 : rep 85 8 = 6148914691236517205 := by decide
theorem rep51 : rep 51 8 = 3689348814741910323 := by decide
theorem rep15 : rep 15 8 = 1085102592571150095 := by decide
theorem val_lt : ∀ (L : List Nat), allB L → val L < 256 ^ L.length
  | [], _ => by simp [val]
  | b :: r, h => by
    have := h b (by simp)
    have ih := val_lt r (fun x hx => h x (by simp [hx]))
    simp only [val, List.length_cons, Nat.pow_succ]
    omega
theorem ones_main (x : Nat) (hx : x < 18446744073709551616) :
    onesA x < 18446744073709551616 ∧ onesB (onesA x) < 18446744073709551616 ∧ onesA x = val ((bytesOf 8 x).map fA) ∧ onesB (onesA x) / 16 + onesB (onesA x) < 18446744073709551616 ∧
    ∃ b0 b1 b2 b3 b4 b5 b6 b7 : Nat, (b0 ≤ 8 ∧ b1 ≤ 8 ∧ b2 ≤ 8 ∧ b3 ≤ 8 ∧ b4 ≤ 8 ∧ b5 ≤ 8 ∧ b6 ≤ 8 ∧ b7 ≤ 8) ∧ onesC (onesB (onesA x)) = b0 + 256 * (b1 + 256 * (b2 + 256 * (b3 + 256 * (b4 + 256 * (b5 + 256 * (b6 + 256 * b7)))))) ∧ pc x 64 = b0 + b1 + b2 + b3 + b4 + b5 + b6 + b7 := by
  have hB := allB_bytesOf 8 x
  have hl := length_bytesOf 8 x
  have hv := val_bytesOf 8 x hx
  have hp := pc_bytes 8 x
  generalize hL : bytesOf 8 x = L at hB hl hv hp
  have a1 : onesA x = val (L.map fA) := by
    rw [← stepA L hB, hl, rep85, hv, onesA]
  have hA : allB (L.map fA) := fun b hb => by
    obtain ⟨c, hc, rfl⟩ := List.mem_map.1 hb
    exact (byteAll ⟨c, hB c hc⟩).1
  have b1 : onesB (onesA x) = val ((L.map fA).map fB) := by
    rw [← stepB (L.map fA) hA, List.length_map, hl, rep51, a1, onesB]
  have h4 : low4 ((L.map fA).map fB) := fun b hb => by
    obtain ⟨c, hc, rfl⟩ := List.mem_map.1 hb
    obtain ⟨d, hd, rfl⟩ := List.mem_map.1 hc
    have := byteAll ⟨d, hB d hd⟩
    exact ⟨this.2.1, this.2.2.1⟩
  have c1 : onesC (onesB (onesA x)) = val (((L.map fA).map fB).map fC) := by
    rw [← stepC _ h4, List.length_map, List.length_map, hl, rep15, b1, onesC]
  have lA := val_lt _ hA
  rw [List.length_map, hl] at lA
  have lB := val_lt ((L.map fA).map fB) (fun b hb => by have := h4 b hb; omega)
  rw [List.length_map, List.length_map, hl] at lB
  refine ⟨by omega, by omega, a1, ?_, ?_⟩
  · have := low4_room _ h4
    rw [List.length_map, List.length_map, hl, ← b1] at this
    exact this
  · obtain ⟨d0, d1, d2, d3, d4, d5, d6, d7, hD⟩ : ∃ d0 d1 d2 d3 d4 d5 d6 d7 : Nat, L = [d0, d1, d2, d3, d4, d5, d6, d7] := ⟨_, _, _, _, _, _, _, _, hL.symm⟩
    rw [hD] at c1 hp hB
    have k := fun d (hd : d ∈ [d0, d1, d2, d3, d4, d5, d6, d7]) => (byteAll ⟨d, hB d hd⟩).2.2.2
    have k0 := k d0 (by simp)
    have k1 := k d1 (by simp)
    have k2 := k d2 (by simp)
    have k3 := k d3 (by simp)
    have k4 := k d4 (by simp)
    have k5 := k d5 (by simp)
    have k6 := k d6 (by simp)
    have k7 := k d7 (by simp)
    simp only at k0 k1 k2 k3 k4 k5 k6 k7
    refine ⟨fC (fB (fA d0)), fC (fB (fA d1)), fC (fB (fA d2)), fC (fB (fA d3)), fC (fB (fA d4)), fC (fB (fA d5)), fC (fB (fA d6)), fC (fB (fA d7)), ⟨k0.1, k1.1, k2.1, k3.1, k4.1, k5.1, k6.1, k7.1⟩, ?_, ?_⟩
    · rw [c1]
      simp only [List.map_cons, List.map_nil, val, Nat.mul_zero, Nat.add_zero]
    · rw [hp, k0.2, k1.2, k2.2, k3.2, k4.2, k5.2, k6.2, k7.2]
      simp only [List.map_cons, List.map_nil, List.sum_cons, List.sum_nil, Nat.add_zero, Nat.add_assoc]
/-- What the last three sums leave. -/
theorem div1 (a u : Nat) (h : a < 256) : (a + 256 * u) / 256 = u := by omega
theorem div2 (a b u : Nat) (h : a < 256) (h' : b < 256) : (a + 256 * (b + 256 * u)) / 65536 = u := by omega
theorem div4 (a b c d u : Nat) (h : a < 256) (h1 : b < 256) (h2 : c < 256) (h3 : d < 256) : (a + 256 * (b + 256 * (c + 256 * (d + 256 * u)))) / 4294967296 = u := by omega
theorem add1 (a b u v : Nat) : (a + 256 * u) + (b + 256 * v) = (a + b) + 256 * (u + v) := by omega
theorem add0 (a b u : Nat) : (a + 256 * u) + b = (a + b) + 256 * u := by omega
theorem top1 (a u m M : Nat) (h : a < 256) (hu : u < m) (hM : 256 * m = M) : a + 256 * u < M := by omega
theorem ones_end (y b0 b1 b2 b3 b4 b5 b6 b7 : Nat) (h : b0 ≤ 8 ∧ b1 ≤ 8 ∧ b2 ≤ 8 ∧ b3 ≤ 8 ∧ b4 ≤ 8 ∧ b5 ≤ 8 ∧ b6 ≤ 8 ∧ b7 ≤ 8) (hy : y = b0 + 256 * (b1 + 256 * (b2 + 256 * (b3 + 256 * (b4 + 256 * (b5 + 256 * (b6 + 256 * b7))))))) :
    ∃ y1 y2 y3 : Nat, y1 = y + y / 256 ∧ y2 = y1 + y1 / 65536 ∧ y3 = y2 + y2 / 4294967296 ∧ y3 < 9223372036854775808 ∧ y1 < 9223372036854775808 ∧ y2 < 9223372036854775808 ∧ y3 % 128 = b0 + b1 + b2 + b3 + b4 + b5 + b6 + b7 := by
  obtain ⟨y1, hy1⟩ : ∃ y1, y1 = y + y / 256 := ⟨_, rfl⟩
  obtain ⟨y2, hy2⟩ : ∃ y2, y2 = y1 + y1 / 65536 := ⟨_, rfl⟩
  obtain ⟨y3, hy3⟩ : ∃ y3, y3 = y2 + y2 / 4294967296 := ⟨_, rfl⟩
  obtain ⟨h0, h1, h2, h3, h4, h5, h6, h7⟩ := h
  have e1 : y1 = (b0 + b1) + 256 * ((b1 + b2) + 256 * ((b2 + b3) + 256 * ((b3 + b4) + 256 * ((b4 + b5) + 256 * ((b5 + b6) + 256 * ((b6 + b7) + 256 * b7)))))) := by
    rw [hy1, hy, div1 _ _ (by omega), add1, add1, add1, add1, add1, add1, add0]
  clear hy1
  have e3 : y2 = (b0 + b1 + (b2 + b3)) + 256 * ((b1 + b2 + (b3 + b4)) + 256 * ((b2 + b3 + (b4 + b5)) + 256 * ((b3 + b4 + (b5 + b6)) + 256 * ((b4 + b5 + (b6 + b7)) + 256 * ((b5 + b6 + b7) + 256 * ((b6 + b7) + 256 * b7)))))) := by
    rw [hy2, e1, div2 _ _ _ (by clear hy e1 hy2; omega) (by clear hy e1 hy2; omega), add1, add1, add1, add1, add1, add0]
  have e5 : y3 = (b0 + b1 + (b2 + b3) + (b4 + b5 + (b6 + b7))) + 256 * ((b1 + b2 + (b3 + b4) + (b5 + b6 + b7)) + 256 * ((b2 + b3 + (b4 + b5) + (b6 + b7)) + 256 * ((b3 + b4 + (b5 + b6) + b7) + 256 * ((b4 + b5 + (b6 + b7)) + 256 * ((b5 + b6 + b7) + 256 * ((b6 + b7) + 256 * b7)))))) := by
    rw [hy3, e3, div4 _ _ _ _ _ (by clear hy e1 hy2 e3 hy3; omega) (by clear hy e1 hy2 e3 hy3; omega) (by clear hy e1 hy2 e3 hy3; omega) (by clear hy e1 hy2 e3 hy3; omega), add1, add1, add1, add0]
  have t7 : b7 < 128 := by clear hy e1 hy2 e3 hy3 e5; omega
  refine ⟨y1, y2, y3, ?_, hy2, hy3, ?_, ?_, ?_, ?_⟩
  · rw [e1, hy, div1 _ _ (by clear hy e1 hy2 e3 hy3 e5; omega), add1, add1, add1, add1, add1, add1, add0]
  · clear hy e1 hy2 e3 hy3
    rw [e5]
    clear e5
    exact top1 _ _ 36028797018963968 _ (by omega) (top1 _ _ 140737488355328 _ (by omega) (top1 _ _ 549755813888 _ (by omega) (top1 _ _ 2147483648 _ (by omega) (top1 _ _ 8388608 _ (by omega) (top1 _ _ 32768 _ (by omega) (top1 _ _ 128 _ (by omega) t7 (by decide)) (by decide)) (by decide)) (by decide)) (by decide)) (by decide)) (by decide)
  · clear hy hy2 e3 hy3 e5
    rw [e1]
    clear e1
    exact top1 _ _ 36028797018963968 _ (by omega) (top1 _ _ 140737488355328 _ (by omega) (top1 _ _ 549755813888 _ (by omega) (top1 _ _ 2147483648 _ (by omega) (top1 _ _ 8388608 _ (by omega) (top1 _ _ 32768 _ (by omega) (top1 _ _ 128 _ (by omega) t7 (by decide)) (by decide)) (by decide)) (by decide)) (by decide)) (by decide)) (by decide)
  · clear hy e1 hy2 hy3 e5
    rw [e3]
    clear e3
    exact top1 _ _ 36028797018963968 _ (by omega) (top1 _ _ 140737488355328 _ (by omega) (top1 _ _ 549755813888 _ (by omega) (top1 _ _ 2147483648 _ (by omega) (top1 _ _ 8388608 _ (by omega) (top1 _ _ 32768 _ (by omega) (top1 _ _ 128 _ (by omega) t7 (by decide)) (by decide)) (by decide)) (by decide)) (by decide)) (by decide)) (by decide)
  · clear hy e1 hy2 hy3 e3
    rw [e5]
    clear e5
    have : ∀ a u : Nat, a ≤ 64 → (a + 256 * u) % 128 = a := by omega
    rw [this _ _ (by omega)]
    omega
theorem pc_cnt (f : Ws) (i : Nat) : pc (f i).toNat 64 = cnt (fun j => bit f (64 * i + j)) 64 := by
  unfold pc
  apply cnt_ext
  intro k hk
  rw [BitVec.testBit_toNat]
  unfold bit
  rw [show (64 * i + k) / 64 = i by omega, show (64 * i + k) % 64 = k by omega]
end Go.Proofs.YtlokplnapaghhaaDoor
