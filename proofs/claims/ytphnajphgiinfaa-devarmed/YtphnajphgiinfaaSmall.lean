/- The law's own small functions: pick, sized, played without a script, shown; and the method Off. -/
import Derived.Test.YtphnajphgiinfaaAwake
import Derived.Deep.RegionWith
namespace Go.Proofs.Ytphnajphgiinfaa
open Go.RowKit Go.Maps Go.MuLone Go.Sort

theorem ret_int {k : IntKind} {a b : Int} (h : a = b) : Ending.returned (.int k a) = .returned (.int k b) := by rw [h]

theorem ret_two {k : IntKind} {x : Value} {a b : Int} (h : a = b) : Ending.returned (.tuple #[x, .int k a]) = .returned (.tuple #[x, .int k b]) := by rw [h]

/-- Which of n things the raw number c speaks of. -/
def pickOf (c n : Int) : Int := (if c < 0 then -(c + 1) else c) % n

theorem pickOf_range (c n : Int) (hn : 0 < n) : 0 ≤ pickOf c n ∧ pickOf c n < n := ⟨Int.emod_nonneg _ (by omega), Int.emod_lt_of_pos _ hn⟩

theorem neg_wrap (c : Int) (h0 : c < 0) (h1 : -9223372036854775808 ≤ c) : wrap64 (-(wrap64 (c + 1))) = -(c + 1) := by
  unfold wrap64
  omega

theorem wf_bounds {c : Int} (h : (Lit.int .i64 c).wf = true) : -9223372036854775808 ≤ c ∧ c ≤ 9223372036854775807 := by
  simpa [Lit.wf, IntKind.min, IntKind.max, IntKind.bits, IntKind.signed] using h

theorem pick_any (c n : Int) (w : World) (hc : (Lit.int .i64 c).wf = true) (hn : 0 < n) (hn2 : n ≤ 65536) :
    Calls Try.prog 10 #[.int .i64 c, .int .i64 n] w fun e w' => e = .returned (.int .i64 (pickOf c n)) ∧ w' = w := by
  have hb := wf_bounds hc
  have HB : Hid (-9223372036854775808 ≤ c ∧ c ≤ 9223372036854775807) := hb
  clear hb hc
  have hz : (n == 0) = false := by rw [beq_eq_false_iff_ne]; omega
  have hz1 : (n == -1) = false := by rw [beq_eq_false_iff_ne]; omega
  by_cases h : c < 0
  · have e : (wrap64 (-wrap64 (c + 1))).tmod n = pickOf c n := by
      have hc := HB.out
      rw [neg_wrap c h hc.1]
      unfold pickOf
      rw [if_pos h, Int.tmod_eq_emod_of_nonneg (by omega)]
    have HE : Hid _ := e
    clear e
    go_enter Try.func10, Try.ntmps10
    go_wp2
    go_ret
    exact ⟨ret_int HE.out, rfl⟩
  · have e : c % n = pickOf c n := by unfold pickOf; rw [if_neg h]
    have HE : Hid _ := e
    clear e
    go_enter Try.func10, Try.ntmps10
    go_wp2
    go_ret
    exact ⟨ret_int HE.out, rfl⟩

/-- The size that a raw number speaks of. -/
def sizeOfRaw (c : Int) : Nat := 512 * 2 ^ (pickOf c 4).toNat
def blocksOfRaw (c : Int) : Nat := 16 + (pickOf c 65521).toNat

theorem size_cases (c : Int) : sizeOfRaw c = 512 ∨ sizeOfRaw c = 1024 ∨ sizeOfRaw c = 2048 ∨ sizeOfRaw c = 4096 := by
  obtain ⟨h1, h2⟩ := pickOf_range c 4 (by decide)
  have : pickOf c 4 = 0 ∨ pickOf c 4 = 1 ∨ pickOf c 4 = 2 ∨ pickOf c 4 = 3 := by omega
  unfold sizeOfRaw
  rcases this with e | e | e | e <;> rw [e] <;> simp
theorem blocks_range (c : Int) : 16 ≤ blocksOfRaw c ∧ blocksOfRaw c ≤ 65536 := by
  obtain ⟨h1, h2⟩ := pickOf_range c 65521 (by decide)
  unfold blocksOfRaw
  omega

theorem pick_lit (c n r : Int) (w : World) (hc : (Lit.int .i64 c).wf = true) (hn : 0 < n) (hn2 : n ≤ 65536) (hr : pickOf c n = r) :
    Calls Try.prog 10 #[.int .i64 c, .int .i64 n] w fun e w' => e = .returned (.int .i64 r) ∧ w' = w := by rw [← hr]; exact pick_any c n w hc hn hn2

theorem size_cell (c : Int) (w : World) : (w.alloc (.cells #[.int .i64 512, .int .i64 1024, .int .i64 2048, .int .i64 4096] 3)).cell? ⟨w.heap.size, (pickOf c 4).toNat, none⟩ = some (.int .i64 (sizeOfRaw c)) := by
  obtain ⟨h1, h2⟩ := pickOf_range c 4 (by decide)
  have hp : pickOf c 4 = 0 ∨ pickOf c 4 = 1 ∨ pickOf c 4 = 2 ∨ pickOf c 4 = 3 := by omega
  unfold sizeOfRaw
  rcases hp with e | e | e | e <;> rw [e] <;> simp

set_option maxHeartbeats 1000000 in
set_option maxRecDepth 100000 in
theorem sized_any (c d : Int) (w : World) (hc : (Lit.int .i64 c).wf = true) (hd : (Lit.int .i64 d).wf = true) :
    Calls Try.prog 8 #[.int .i64 c, .int .i64 d] w fun e w' => e = .returned (.tuple #[.int .i64 (sizeOfRaw c), .int .i64 (blocksOfRaw d)]) ∧ Below w.heap.size w w' := by
  obtain ⟨h1, h2⟩ := pickOf_range c 4 (by decide)
  obtain ⟨h3, h4⟩ := pickOf_range d 65521 (by decide)
  have HB : Hid (IntKind.i64.wrap ((16 : Int) + pickOf d 65521) = (blocksOfRaw d : Int)) := by
    unfold Hid blocksOfRaw
    rw [IntWalk.i64_in _ (by omega)]
    omega
  have HW : Hid (∀ W, Calls Try.prog 10 #[.int .i64 d, .int .i64 65521] W fun e w' => e = .returned (.int .i64 (pickOf d 65521)) ∧ w' = W) := fun W => pick_any d 65521 W hd (by decide) (by decide)
  have HV : Hid (∀ W, Calls Try.prog 10 #[.int .i64 c, .int .i64 4] W fun e w' => e = .returned (.int .i64 (pickOf c 4)) ∧ w' = W) := fun W => pick_any c 4 W hc (by decide) (by decide)
  have hcell := size_cell c w
  clear hc hd
  generalize pickOf d 65521 = r at *
  generalize pickOf c 4 = p at *
  generalize sizeOfRaw c = S at *
  generalize blocksOfRaw d = B at *
  go_enter Try.func8, Try.ntmps8
  go_wp2_with fail
  go_region_with (first
        | (go_at_call_of 10 (Value.int .i64 4); refine (HV.out _).mono ?_; rintro e w1 ⟨rfl, rfl⟩)
        | (go_at_call_of 10 (Value.int .i64 65521); refine (HW.out _).mono ?_; rintro e w2 ⟨rfl, rfl⟩))
  all_goals
    go_wp2
    go_ret2
    exact ⟨ret_two HB.out, ((Below.refl _ _).alloc (Nat.le_refl _) _).trans (below_drew _ _)⟩

/-- 'filled' at any size, in bytes. -/
theorem fill_any (n : Nat) (c : UInt8) (w : World) (hn : n ≤ 4096) :
    Calls Try.prog 12 #[.int .i64 n, .int .u8 (c.toNat : Int)] w fun e w' => ∃ v, e = .returned v ∧ v = .slice (some ⟨w.heap.size, 0, none⟩) n n ∧ w'.ownsRow w.heap.size 5 1 v n ((List.replicate n c).map encB) ∧ Below w.heap.size w w' := by
  refine (filled_any n (c.toNat : Int) w hn).mono ?_
  rintro e w' ⟨rfl, hrow, hg⟩
  rw [repl_bytes] at hrow
  exact ⟨_, rfl, rfl, hrow, below_grown hg (Nat.le_refl _)⟩

/-- 'Off'. -/
theorem off_any (c : Nat) (w : World) (b : Nat) (s : St) (h : DevIs 0 c w b s) :
    Calls Try.prog 16 #[.pointer (some ⟨b, 0, none⟩)] w fun e w' => e = .returned (.bool s.off) ∧ DevIs 0 c w' b s ∧ Kept (fun k => k = b) w w' := by
  go_enter_defers Try.func16, Try.ntmps16
  go_wp2_with fail
  refine (lock_dev c _ b s h).mono ?_
  rintro e w1 ⟨rfl, h1, k1, hs1⟩
  have c6 : w1.cell? ⟨b, 6, none⟩ = some (.bool s.off) := h1.cell 6
  go_wp2
  refine leaves_cons (f := 28) (args := #[.pointer (some ⟨b, 2, none⟩)]) (by simp) (by simp [go_sem]) ?_
  refine (unlock_dev c .returning _ b s h1).mono ?_
  rintro e u' w2 ⟨rfl, rfl, h2, k2, hs2⟩
  exact ⟨_, results_tmp rfl _ _ _, rfl, h2, k1.trans k2 (fun _ _ x => x)⟩

/-- A device on which nothing was played. -/
theorem played_nil (size blocks : Nat) (w : World) (h : size = 512 ∨ size = 1024 ∨ size = 2048 ∨ size = 4096) (hb : 16 ≤ blocks ∧ blocks ≤ 65536) :
    Calls Try.prog 9 #[.int .i64 size, .int .i64 blocks, .slice none 0 0] w fun e w' => e = .returned (.pointer (some ⟨w.heap.size + 2, 0, none⟩)) ∧
      DevIs 0 0 w' (w.heap.size + 2) (St.new size blocks w.heap.size) ∧ Below w.heap.size w w' := by
  go_enter Try.func9, Try.ntmps9
  go_wp2_with fail
  refine (new_ok size blocks w h hb).mono ?_
  rintro e w1 ⟨rfl, hd, hbl⟩
  go_wp2_with fail
  go_loop [9] (fun i => i = .int .i64 0) (fun _ => 0)
  case atStart => rfl
  case round =>
    subst hrel
    go_wp2
    go_ret
    exact ⟨rfl, hd, hbl⟩

/-- The law's 'shown', of a block that can be read. -/
theorem shows_ok (c : Nat) (w0 w : World) (b : Nat) (s : St) (h : Run c b w0 w s) (hs : Calm s) (n : Int) (hn : (Lit.int .i64 n).wf = true) (hr : inRange n s.blocks = true) (bs : List UInt8) (hsh : shows s n = some bs) :
    Calls Try.prog 17 #[.pointer (some ⟨b, 0, none⟩), .int .i64 n] w fun e w' => e = .returned (.tuple #[.string (strB bs), .bool true]) ∧
      ∃ s', Run c b w0 w' s' ∧ Calm s' ∧ s'.size = s.size ∧ s'.blocks = s.blocks ∧ s'.lasts = s.lasts ∧ s'.waits = s.waits ∧ (∀ i, Own b s' i → Own b s i) ∧ Kept (fun k => k = b) w w' ∧ s'.X = s.X := by
  have hs1 := h.dev.size.1
  go_enter Try.func17, Try.ntmps17
  go_wp2_with fail
  refine (run_read c w0 w b s h hs n hn hr bs hsh).mono ?_
  rintro e w1 ⟨v, rfl, hrow, hfin⟩
  have hcv := conv_bytes (row_base hrow (Nat.zero_le _)) hs1
  go_wp2
  go_ret2
  exact ⟨rfl, hfin⟩

/-- .. of one that cannot. -/
theorem shows_bad (c : Nat) (w0 w : World) (b : Nat) (s : St) (h : Run c b w0 w s) (hs : Calm s) (n : Int) (hn : (Lit.int .i64 n).wf = true) (hr : inRange n s.blocks = true) (hsh : shows s n = none) :
    Calls Try.prog 17 #[.pointer (some ⟨b, 0, none⟩), .int .i64 n] w fun e w' => (∃ x, e = .returned (.tuple #[.string x, .bool false])) ∧ Run c b w0 w' s ∧ Kept (fun k => k = b) w w' := by
  go_enter Try.func17, Try.ntmps17
  go_wp2_with fail
  refine (read_bad c w b s h.dev n hn hs.off hr hsh).mono ?_
  rintro e w1 ⟨rfl, hd, k⟩
  have hcv : (convert 29 9 (.slice none 0 0)).run Try.prog w1 = .ok (.string ByteArray.empty) w1 := run_convert_bytes_nil w1 29 5 Try.underlying29 Try.underlying5 0 0 9 Try.underlying9
  go_wp2
  go_ret2
  exact ⟨⟨_, rfl⟩, h.next hd (k.mono (fun i _ e => own_b i e)) (fun i hi => .inl hi), k⟩
end Go.Proofs.Ytphnajphgiinfaa
