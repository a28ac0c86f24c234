/- New, Copy. -/
import Derived.Test.YtlokplnapaghhaaDoorTakes
import Derived.OwnWalk
namespace Go.Proofs.YtlokplnapaghhaaDoor
open Go.RowKit

theorem built_space (n : Nat) : Tryd.prog.built 61 [(0, .int .i64 (n : Int))] = some (cellsS (Sp.empty n)) := by kernel_rfl
theorem build_space (n : Nat) (w : World) : (Instr.build 61 #[(0, .int .i64 (n : Int))]).run Tryd.prog w = .ok (.agg (cellsS (Sp.empty n))) w := run_build w _ _ _ (built_space n)
theorem wpList_built {P : Program} {ops : Array Oper} {rest : List Oper} {o : Oper} {a : Act} {w : World} {Q : Exit → Act → World → Prop} (hg : o.guard = none) (t : TypeId) (x : Operand) (ho : o.op = .build t #[(0, x)])
    (v : Value) (hx : a.eval x = v) (cells : Array Value) (hb : P.built t [(0, v)] = some cells)
    (h : wpList P ops Q rest (a.put o.dst (.agg cells)) w) : wpList P ops Q (o :: rest) a w := by
  have hp : ((#[(0, x)] : Array (Nat × Operand)).map fun (i, x) => (i, a.eval x)).toList = [(0, v)] := by simp [hx]
  refine wpList_build hg t #[(0, x)] ho (by rw [hp, hb]; rfl) ?_
  rw [hp, hb]
  exact h
def newOk (blocks used : Int) : Bool := decide (16 ≤ blocks) && decide (blocks ≤ 65536) && decide (0 ≤ used) && decide (used ≤ blocks)
theorem new_bad (w : World) (blocks used : Int) (h : newOk blocks used = false) :
    Calls Tryd.prog 9 #[.int .i64 blocks, .int .i64 used] w fun e w' => e = .returned (.tuple #[.pointer none, .int .i64 1]) ∧ w' = w := by
  have HM := mayBe_any w blocks
  cases hm : (decide (16 ≤ blocks) && decide (blocks ≤ 65536)) with
  | false =>
    rw [hm] at HM
    clear h hm
    go_enter Tryd.func9, Tryd.ntmps9
    go_wp2_with (go_at_call 27; refine HM.mono ?_; rintro e w' ⟨rfl, rfl⟩)
    go_ret2
    exact ⟨rfl, rfl⟩
  | true =>
    rw [hm] at HM
    have h2 : ¬ (0 ≤ used ∧ used ≤ blocks) := by
      simp only [newOk, hm, Bool.true_and] at h
      intro hh
      simp [hh.1, hh.2] at h
    clear h hm
    by_cases hu : used < 0
    · clear h2
      go_enter Tryd.func9, Tryd.ntmps9
      go_wp2_with (go_at_call 27; refine HM.mono ?_; rintro e w' ⟨rfl, rfl⟩)
      go_ret2
      exact ⟨rfl, rfl⟩
    · have hb : blocks < used := by omega
      clear h2
      go_enter Tryd.func9, Tryd.ntmps9
      go_wp2_with (go_at_call 27; refine HM.mono ?_; rintro e w' ⟨rfl, rfl⟩)
      go_ret2
      exact ⟨rfl, rfl⟩
set_option maxRecDepth 100000 in
theorem new_ok (w : World) (n u : Nat) (h1 : 16 ≤ n) (h2 : n ≤ 65536) (hu : u ≤ n) :
    Calls Tryd.prog 9 #[.int .i64 n, .int .i64 u] w fun e w' => e = .returned (.tuple #[.pointer (some ⟨w.heap.size, 0, none⟩), .int .i64 0]) ∧ SpaceAt w' w.heap.size ((Sp.empty n).use 0 u) ∧ Below w.heap.size w w' := by
  have HM := mayBe_any w n
  have hm : (decide (16 ≤ (n : Int)) && decide ((n : Int) ≤ 65536)) = true := by
    simp only [Bool.and_eq_true, decide_eq_true_eq]; omega
  rw [hm] at HM
  obtain ⟨w0, hw0⟩ : ∃ w0, w0 = w.alloc (.cells (cellsS (Sp.empty n)) 61) := ⟨_, rfl⟩
  have h0 : SpaceAt w0 w.heap.size (Sp.empty n) := ⟨by rw [hw0]; exact heap_alloc_last _ _, Sp.Ok.empty h1 h2⟩
  have HB : Hid (Below w.heap.size w w0) := by rw [hw0]; exact (Below.refl _ _).alloc (Nat.le_refl _) _
  have hz0 : w.heap.size < w0.heap.size := h0.lt
  have HU := use_any w0 w.heap.size (Sp.empty n) h0 0 u (by simpa [Sp.empty] using hu)
  have hu0 : ¬ (u : Int) < 0 := by omega
  have hu1 : ¬ (n : Int) < (u : Int) := by omega
  have hz : ((0 : Nat) : Int) = 0 := rfl
  rw [hz] at HU
  clear hm h0 hz
  have hbt := built_space n
  generalize cellsS (Sp.empty n) = cs at hw0 hbt
  have HBT : Hid _ := hbt
  clear hbt
  rw [hw0] at HU
  go_enter Tryd.func9, Tryd.ntmps9
  go_wp2_with (first | (go_at_call 27; refine HM.mono ?_; rintro e w' ⟨rfl, rfl⟩) | (go_at_call 28; refine HU.mono ?_; rintro e w' ⟨rfl, hs', hk'⟩) | (refine wpList_built rfl 61 _ rfl (.int .i64 (n : Int)) rfl cs HBT.out ?_))
  go_ret2
  refine ⟨rfl, hs', ?_⟩
  rw [← hw0] at hk'
  exact Kept.below HB.out hk' (by omega) (fun i hi => by omega)
theorem zeroS : (Tryd.prog.info? 61).map (fun i => (i.zero, i.size)) = some (some (.agg (cellsS (Sp.empty 0))), 1025) := by kernel_rfl
theorem cellsS_one (s : Sp) : (cellsS s).all (·.oneCell') = true := by
  rw [Array.all_eq_true_iff_forall_mem]
  intro v hv
  simp only [cellsS, List.mem_toArray, List.mem_cons, List.mem_map] at hv
  rcases hv with rfl | ⟨j, _, rfl⟩ <;> rfl
set_option maxHeartbeats 800000 in
theorem copy_any (w : World) (b : Nat) (s : Sp) (h : SpaceAt w b s) :
    Calls Tryd.prog 33 #[.pointer (some ⟨b, 0, none⟩)] w fun e w' => e = .returned (.pointer (some ⟨w.heap.size, 0, none⟩)) ∧ SpaceAt w' w.heap.size s ∧ Below w.heap.size w w' := by
  obtain ⟨hz, hi⟩ := zero_of_info zeroS
  have hi2 : (Tryd.prog.info? 61).map (·.size) = some (cellsS s).size := by rw [cellsS_size]; exact hi
  have HI : Hid _ := hi2
  have hsc := run_storeCells_new (P := Tryd.prog) w 61 (cellsS (Sp.empty 0)) (cellsS s) hi2 (by rw [cellsS_size, cellsS_size]) (cellsS_one s)
  have HC := h.cells
  have HO : Hid s.Ok := h.ok
  have HS : Hid (SpaceAt (w.alloc (.cells (cellsS s) 61)) w.heap.size s ∧ Below w.heap.size w (w.alloc (.cells (cellsS s) 61))) := ⟨⟨heap_alloc_last _ _, h.ok⟩, (Below.refl _ _).alloc (Nat.le_refl _) _⟩
  generalize cellsS (Sp.empty 0) = Z at hz hsc
  have hY := cellsS_size s
  generalize cellsS s = Y at hsc HC HS HI hY
  clear h hi hi2
  go_enter Tryd.func33, Tryd.ntmps33
  go_wp2_with (refine wpList_load_row rfl 61 _ rfl b rfl 61 _ (0, 0) _ HC Tryd.underlying61 rfl HI.out ?_)
  go_ret
  exact ⟨rfl, HS.out⟩
end Go.Proofs.YtlokplnapaghhaaDoor
