/- The law's small. -/
import Derived.Test.YtpmcpomomagkhaaSameM
import Derived.Lib.SlBytesConst
namespace Go.Proofs.Ytpmcpomomagkhaa
open Go.RowKit

theorem const_any (W : World) (m : Nat) (C : Array Value) (n c : Nat) (h : W.heap.size = m) : Sem.run Try.prog (convert 32 32 (.slice (some ⟨m, 0, none⟩) n c)) (W.alloc (.cells C 5)) = .ok (.slice (some ⟨m, 0, none⟩) n c) (W.alloc (.cells C 5 (C.size, C.size + 1))) := by
  subst h
  exact Lib.run_convert_bytes_const (P := Try.prog) W 32 5 C n c Try.underlying32 Try.underlying5
theorem one_lit (w : World) (c : UInt8) (f : Nat × Nat) (C : Array Value) (hC : C = #[.int .u8 (c.toNat : Int)]) : KeyAt (w.alloc (.cells C 5 f)) (.slice (some ⟨w.heap.size, 0, none⟩) 1 1) [c] := by
  subst hC
  refine key_block (heap_alloc_last w _) (fun j x hj => ?_) 1 1 rfl (Nat.le_refl _) (by omega)
  match j, hj with
  | 0, hj => simp at hj; subst hj; rfl
  | j + 1, hj => simp at hj

def smallK : Kd := ⟨[5, 9, 4], [[99], [102]]⟩
def smallM : Ms := ⟨7, 1, [103], [], [120]⟩
def smallN : Nd := ⟨smallK, [smallM]⟩
/-- The small node in memory. -/
structure SmallAt (w : World) (v : Value) : Prop where
  is : ∃ a1 c1 a2 c2 a3 c3 K M, v = .agg #[.slice a1 3 c1, .slice a2 2 c2, .slice a3 1 c3] ∧ NodeAt w.heap.size w v [5, 9, 4] K M ∧ nd [5, 9, 4] K M = smallN ∧ K.length = 2 ∧ M.length = 1
theorem SmallAt.here {w w' : World} {v : Value} (h : SmallAt w v) (hb : Below w.heap.size w w') : SmallAt w' v := by
  obtain ⟨a1, c1, a2, c2, a3, c3, K, M, e, h1, h2⟩ := h.is
  exact ⟨a1, c1, a2, c2, a3, c3, K, M, e, h1.here hb, h2⟩
theorem small_mem (w : World) : NBox (((((((((w.alloc (.cells #[.slice (some ⟨w.heap.size + 1, 0, none⟩) 3 3, .slice (some ⟨w.heap.size + 1 + 1 + 1 + 1, 0, none⟩) 2 2, .slice (some ⟨w.heap.size + 1 + 1 + 1 + 1 + 1 + 1 + 1 + 1, 0, none⟩) 1 1] 31)).alloc (.cells #[.int .i64 5, .int .i64 9, .int .i64 4] 3)).alloc (.cells #[.int .u8 99] 5 (1, 2))).alloc (.cells #[.int .u8 102] 5 (1, 2))).alloc (.cells #[.slice (some ⟨w.heap.size + 1 + 1, 0, none⟩) 1 1, .slice (some ⟨w.heap.size + 1 + 1 + 1, 0, none⟩) 1 1] 32)).alloc (.cells #[.slice (some ⟨w.heap.size + 1, 0, none⟩) 3 3, .slice (some ⟨w.heap.size + 1 + 1 + 1 + 1, 0, none⟩) 2 2] 28)).alloc (.cells #[.int .u8 103] 5 (1, 2))).alloc (.cells #[.int .u8 120] 5 (1, 2))).alloc (.cells #[.int .u64 7, .int .i64 1, .slice (some ⟨w.heap.size + 1 + 1 + 1 + 1 + 1 + 1, 0, none⟩) 1 1, .slice none 0 0, .slice (some ⟨w.heap.size + 1 + 1 + 1 + 1 + 1 + 1 + 1, 0, none⟩) 1 1] 48)) w.heap.size (.slice (some ⟨w.heap.size + 1, 0, none⟩) 3 3) (.slice (some ⟨w.heap.size + 1 + 1 + 1 + 1, 0, none⟩) 2 2) (.slice (some ⟨w.heap.size + 1 + 1 + 1 + 1 + 1 + 1 + 1 + 1, 0, none⟩) 1 1) ∧ SmallAt (((((((((w.alloc (.cells #[.slice (some ⟨w.heap.size + 1, 0, none⟩) 3 3, .slice (some ⟨w.heap.size + 1 + 1 + 1 + 1, 0, none⟩) 2 2, .slice (some ⟨w.heap.size + 1 + 1 + 1 + 1 + 1 + 1 + 1 + 1, 0, none⟩) 1 1] 31)).alloc (.cells #[.int .i64 5, .int .i64 9, .int .i64 4] 3)).alloc (.cells #[.int .u8 99] 5 (1, 2))).alloc (.cells #[.int .u8 102] 5 (1, 2))).alloc (.cells #[.slice (some ⟨w.heap.size + 1 + 1, 0, none⟩) 1 1, .slice (some ⟨w.heap.size + 1 + 1 + 1, 0, none⟩) 1 1] 32)).alloc (.cells #[.slice (some ⟨w.heap.size + 1, 0, none⟩) 3 3, .slice (some ⟨w.heap.size + 1 + 1 + 1 + 1, 0, none⟩) 2 2] 28)).alloc (.cells #[.int .u8 103] 5 (1, 2))).alloc (.cells #[.int .u8 120] 5 (1, 2))).alloc (.cells #[.int .u64 7, .int .i64 1, .slice (some ⟨w.heap.size + 1 + 1 + 1 + 1 + 1 + 1, 0, none⟩) 1 1, .slice none 0 0, .slice (some ⟨w.heap.size + 1 + 1 + 1 + 1 + 1 + 1 + 1, 0, none⟩) 1 1] 48)) (.agg #[.slice (some ⟨w.heap.size + 1, 0, none⟩) 3 3, .slice (some ⟨w.heap.size + 1 + 1 + 1 + 1, 0, none⟩) 2 2, .slice (some ⟨w.heap.size + 1 + 1 + 1 + 1 + 1 + 1 + 1 + 1, 0, none⟩) 1 1]) ∧ Below w.heap.size w (((((((((w.alloc (.cells #[.slice (some ⟨w.heap.size + 1, 0, none⟩) 3 3, .slice (some ⟨w.heap.size + 1 + 1 + 1 + 1, 0, none⟩) 2 2, .slice (some ⟨w.heap.size + 1 + 1 + 1 + 1 + 1 + 1 + 1 + 1, 0, none⟩) 1 1] 31)).alloc (.cells #[.int .i64 5, .int .i64 9, .int .i64 4] 3)).alloc (.cells #[.int .u8 99] 5 (1, 2))).alloc (.cells #[.int .u8 102] 5 (1, 2))).alloc (.cells #[.slice (some ⟨w.heap.size + 1 + 1, 0, none⟩) 1 1, .slice (some ⟨w.heap.size + 1 + 1 + 1, 0, none⟩) 1 1] 32)).alloc (.cells #[.slice (some ⟨w.heap.size + 1, 0, none⟩) 3 3, .slice (some ⟨w.heap.size + 1 + 1 + 1 + 1, 0, none⟩) 2 2] 28)).alloc (.cells #[.int .u8 103] 5 (1, 2))).alloc (.cells #[.int .u8 120] 5 (1, 2))).alloc (.cells #[.int .u64 7, .int .i64 1, .slice (some ⟨w.heap.size + 1 + 1 + 1 + 1 + 1 + 1, 0, none⟩) 1 1, .slice none 0 0, .slice (some ⟨w.heap.size + 1 + 1 + 1 + 1 + 1 + 1 + 1, 0, none⟩) 1 1] 48)) := by
  obtain ⟨W1, h1⟩ : ∃ W1, W1 = w.alloc (.cells #[.slice (some ⟨w.heap.size + 1, 0, none⟩) 3 3, .slice (some ⟨w.heap.size + 1 + 1 + 1 + 1, 0, none⟩) 2 2, .slice (some ⟨w.heap.size + 1 + 1 + 1 + 1 + 1 + 1 + 1 + 1, 0, none⟩) 1 1] 31) := ⟨_, rfl⟩
  obtain ⟨W2, h2⟩ : ∃ W2, W2 = W1.alloc (.cells #[.int .i64 5, .int .i64 9, .int .i64 4] 3) := ⟨_, rfl⟩
  obtain ⟨W3, h3⟩ : ∃ W3, W3 = W2.alloc (.cells #[.int .u8 99] 5 (1, 2)) := ⟨_, rfl⟩
  obtain ⟨W4, h4⟩ : ∃ W4, W4 = W3.alloc (.cells #[.int .u8 102] 5 (1, 2)) := ⟨_, rfl⟩
  obtain ⟨W5, h5⟩ : ∃ W5, W5 = W4.alloc (.cells #[.slice (some ⟨w.heap.size + 1 + 1, 0, none⟩) 1 1, .slice (some ⟨w.heap.size + 1 + 1 + 1, 0, none⟩) 1 1] 32) := ⟨_, rfl⟩
  obtain ⟨W6, h6⟩ : ∃ W6, W6 = W5.alloc (.cells #[.slice (some ⟨w.heap.size + 1, 0, none⟩) 3 3, .slice (some ⟨w.heap.size + 1 + 1 + 1 + 1, 0, none⟩) 2 2] 28) := ⟨_, rfl⟩
  obtain ⟨W7, h7⟩ : ∃ W7, W7 = W6.alloc (.cells #[.int .u8 103] 5 (1, 2)) := ⟨_, rfl⟩
  obtain ⟨W8, h8⟩ : ∃ W8, W8 = W7.alloc (.cells #[.int .u8 120] 5 (1, 2)) := ⟨_, rfl⟩
  obtain ⟨W9, h9⟩ : ∃ W9, W9 = W8.alloc (.cells #[.int .u64 7, .int .i64 1, .slice (some ⟨w.heap.size + 1 + 1 + 1 + 1 + 1 + 1, 0, none⟩) 1 1, .slice none 0 0, .slice (some ⟨w.heap.size + 1 + 1 + 1 + 1 + 1 + 1 + 1, 0, none⟩) 1 1] 48) := ⟨_, rfl⟩
  rw [← h1]
  rw [← h2]
  rw [← h3]
  rw [← h4]
  rw [← h5]
  rw [← h6]
  rw [← h7]
  rw [← h8]
  rw [← h9]
  have z1 : W1.heap.size = w.heap.size + 1 := by rw [h1]; simp
  have b1 : Below w.heap.size w W1 := by rw [h1]; exact below_new _ _
  have z2 : W2.heap.size = w.heap.size + 1 + 1 := by rw [h2]; simp [z1]
  have b2 : Below W1.heap.size W1 W2 := by rw [h2]; exact below_new _ _
  have z3 : W3.heap.size = w.heap.size + 1 + 1 + 1 := by rw [h3]; simp [z2]
  have b3 : Below W2.heap.size W2 W3 := by rw [h3]; exact below_new _ _
  have z4 : W4.heap.size = w.heap.size + 1 + 1 + 1 + 1 := by rw [h4]; simp [z3]
  have b4 : Below W3.heap.size W3 W4 := by rw [h4]; exact below_new _ _
  have z5 : W5.heap.size = w.heap.size + 1 + 1 + 1 + 1 + 1 := by rw [h5]; simp [z4]
  have b5 : Below W4.heap.size W4 W5 := by rw [h5]; exact below_new _ _
  have z6 : W6.heap.size = w.heap.size + 1 + 1 + 1 + 1 + 1 + 1 := by rw [h6]; simp [z5]
  have b6 : Below W5.heap.size W5 W6 := by rw [h6]; exact below_new _ _
  have z7 : W7.heap.size = w.heap.size + 1 + 1 + 1 + 1 + 1 + 1 + 1 := by rw [h7]; simp [z6]
  have b7 : Below W6.heap.size W6 W7 := by rw [h7]; exact below_new _ _
  have z8 : W8.heap.size = w.heap.size + 1 + 1 + 1 + 1 + 1 + 1 + 1 + 1 := by rw [h8]; simp [z7]
  have b8 : Below W7.heap.size W7 W8 := by rw [h8]; exact below_new _ _
  have z9 : W9.heap.size = w.heap.size + 1 + 1 + 1 + 1 + 1 + 1 + 1 + 1 + 1 := by rw [h9]; simp [z8]
  have b9 : Below W8.heap.size W8 W9 := by rw [h9]; exact below_new _ _
  have c98 := b9
  have t8 : Below W8.heap.size W8 W9 := b9
  have t7 : Below W7.heap.size W7 W9 := b8.trans (t8.mono b8.size)
  have t6 : Below W6.heap.size W6 W9 := b7.trans (t7.mono b7.size)
  have t5 : Below W5.heap.size W5 W9 := b6.trans (t6.mono b6.size)
  have t4 : Below W4.heap.size W4 W9 := b5.trans (t5.mono b5.size)
  have t3 : Below W3.heap.size W3 W9 := b4.trans (t4.mono b4.size)
  have t2 : Below W2.heap.size W2 W9 := b3.trans (t3.mono b3.size)
  have t1 : Below W1.heap.size W1 W9 := b2.trans (t2.mono b2.size)
  have t0 : Below w.heap.size w W9 := b1.trans (t1.mono b1.size)
  have kc : KeyAt W9 (.slice (some ⟨w.heap.size + 1 + 1, 0, none⟩) 1 1) [99] := by
    have := one_lit W2 99 (1, 2) #[.int .u8 99] rfl
    rw [← h3, z2] at this
    exact this.here t3
  have kf : KeyAt W9 (.slice (some ⟨w.heap.size + 1 + 1 + 1, 0, none⟩) 1 1) [102] := by
    have := one_lit W3 102 (1, 2) #[.int .u8 102] rfl
    rw [← h4, z3] at this
    exact this.here t4
  have kg : KeyAt W9 (.slice (some ⟨w.heap.size + 1 + 1 + 1 + 1 + 1 + 1, 0, none⟩) 1 1) [103] := by
    have := one_lit W6 103 (1, 2) #[.int .u8 103] rfl
    rw [← h7, z6] at this
    exact this.here t7
  have kx : KeyAt W9 (.slice (some ⟨w.heap.size + 1 + 1 + 1 + 1 + 1 + 1 + 1, 0, none⟩) 1 1) [120] := by
    have := one_lit W7 120 (1, 2) #[.int .u8 120] rfl
    rw [← h8, z7] at this
    exact this.here t8
  have ip : Br.IntsAt W9.heap.size W9 (.slice (some ⟨w.heap.size + 1, 0, none⟩) 3 3) [5, 9, 4] := by
    have hr : W9.heap[w.heap.size + 1]? = some (.cells #[.int .i64 5, .int .i64 9, .int .i64 4] 3 (0, 0)) := by
      rw [← z1, t2.block _ (by rw [z1, z2]; omega), h2]; exact heap_alloc_last W1 _
    refine ⟨⟨_, _, rfl, Nat.le_refl _, fun h => (by cases h), fun j u hj => ⟨_, 0, rfl, by rw [z9]; omega, ?_⟩⟩, by decide, fun p hp => ?_⟩
    · rw [Nat.zero_add, row_cell hr]
      simpa [Br.encI] using hj
    · simp at hp; omega
  have kk : Br.KeysAt W9.heap.size W9 (.slice (some ⟨w.heap.size + 1 + 1 + 1 + 1, 0, none⟩) 2 2) [⟨.slice (some ⟨w.heap.size + 1 + 1, 0, none⟩) 1 1, [99]⟩, ⟨.slice (some ⟨w.heap.size + 1 + 1 + 1, 0, none⟩) 1 1, [102]⟩] := by
    have hr : W9.heap[w.heap.size + 1 + 1 + 1 + 1]? = some (.cells #[.slice (some ⟨w.heap.size + 1 + 1, 0, none⟩) 1 1, .slice (some ⟨w.heap.size + 1 + 1 + 1, 0, none⟩) 1 1] 32 (0, 0)) := by
      rw [← z4, t5.block _ (by rw [z4, z5]; omega), h5]; exact heap_alloc_last W4 _
    refine ⟨⟨_, _, rfl, Nat.le_refl _, fun h => (by cases h), fun j u hj => ⟨_, 0, rfl, by rw [z9]; omega, ?_⟩⟩, by simp, fun e he => ?_⟩
    · rw [Nat.zero_add, row_cell hr]
      simpa using hj
    · simp only [List.mem_cons, List.not_mem_nil, or_false] at he
      rcases he with rfl | rfl
      · exact toBrIn kc.in
      · exact toBrIn kf.in
  have mm : MsgsAt W9.heap.size W9 (.slice (some ⟨w.heap.size + 1 + 1 + 1 + 1 + 1 + 1 + 1 + 1, 0, none⟩) 1 1) [⟨.slice (some ⟨w.heap.size + 1 + 1 + 1 + 1 + 1 + 1, 0, none⟩) 1 1, .slice none 0 0, .slice (some ⟨w.heap.size + 1 + 1 + 1 + 1 + 1 + 1 + 1, 0, none⟩) 1 1, smallM⟩] := by
    have hr : W9.heap[w.heap.size + 1 + 1 + 1 + 1 + 1 + 1 + 1 + 1]? = some (.cells #[.int .u64 7, .int .i64 1, .slice (some ⟨w.heap.size + 1 + 1 + 1 + 1 + 1 + 1, 0, none⟩) 1 1, .slice none 0 0, .slice (some ⟨w.heap.size + 1 + 1 + 1 + 1 + 1 + 1 + 1, 0, none⟩) 1 1] 48 (0, 0)) := by
      rw [← z8, h9]; exact heap_alloc_last W8 _
    refine ⟨⟨_, _, rfl, Nat.le_refl _, fun h => (by cases h), fun j u hj => ⟨_, 0, rfl, by rw [z9]; omega, ?_⟩⟩, by simp, fun e he => ?_⟩
    · rw [Nat.zero_add, row_cell hr]
      simpa [flatM, Mt.cells, smallM] using hj
    · simp only [List.mem_cons, List.not_mem_nil, or_false] at he
      subst he
      exact ⟨kg.in, (KeyAt.nil _).in, kx.in, (by show smallM.st < 18446744073709551616; decide), (by show (-9223372036854775808 : Int) ≤ smallM.kd ∧ smallM.kd ≤ (9223372036854775807 : Int); decide)⟩
  refine ⟨?_, ⟨_, _, _, _, _, _, _, _, rfl, ⟨_, _, _, rfl, ip, kk, mm⟩, rfl, rfl, rfl⟩, t0⟩
  have : NBox W1 w.heap.size (.slice (some ⟨w.heap.size + 1, 0, none⟩) 3 3) (.slice (some ⟨w.heap.size + 1 + 1 + 1 + 1, 0, none⟩) 2 2) (.slice (some ⟨w.heap.size + 1 + 1 + 1 + 1 + 1 + 1 + 1 + 1, 0, none⟩) 1 1) := by rw [h1]; exact NBox.new _ _ _ _
  exact this.here t1

theorem ret_node1 {fn : Func} {p : Tmp} (h : fn.results = #[.cell p 31]) {tmps : Array Value} {w : World} {b : Nat} {x y z : Value} (hp : tmps.getD p undef = .pointer (some ⟨b, 0, none⟩)) (hB : NBox w b x y z) :
    (results fn tmps).run Try.prog w = .ok (.agg #[x, y, z]) w :=
  results_cell_row h tmps w b 31 _ (0, 0) _ hp hB.row Try.underlying31 rfl infoNo

set_option maxHeartbeats 1600000 in
set_option maxRecDepth 100000 in
theorem small_any (w : World) : Calls Try.prog 13 #[] w fun r w' => ∃ v, r = .returned v ∧ (SmallAt w' v ∧ Below w.heap.size w w') := by
  have hcv := const_any
  have HS : Hid _ := small_mem w
  go_enter Try.func13, Try.ntmps13
  go_wp2
  exact bodyPost_ret (ret_node1 rfl rfl HS.out.1) rfl ⟨_, rfl, HS.out.2.1, HS.out.2.2⟩
end Go.Proofs.Ytpmcpomomagkhaa
