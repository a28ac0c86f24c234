/- The table: each row is what its byte leaves. -/
import Derived.Test.YtafkimhnllnopaaWords
import Derived.Deep.WholeRow
import Derived.Deep.MidRow
namespace Go.Proofs.Ytafkimhnllnopaa
open Go.RowKit

def left (j : Nat) : BitVec 64 := Tn 8 (BitVec.ofNat 64 j)
def rowAt (i j : Nat) : Value := .int .u64 (if j < i then ((left j).toNat : Int) else 0)
def tab (i : Nat) : Array Value := ((List.range 256).map (rowAt i)).toArray
theorem tab_size (i : Nat) : (tab i).size = 256 := by simp [tab]
theorem tab_at (i j : Nat) (h : j < 256) : (tab i)[j]? = some (rowAt i j) := by simp [tab, h]
theorem tab_done (i j : Nat) (h : j < i) (h2 : i ≤ 256) : (tab i)[j]? = some (.int .u64 ((left j).toNat : Int)) := by rw [tab_at i j (by omega), rowAt, if_pos h]
theorem tab_next (i : Nat) (h : i < 256) : (tab i).setIfInBounds i (.int .u64 ((left i).toNat : Int)) = tab (i + 1) := by
  apply Array.ext_getElem?
  intro j
  rw [Array.getElem?_setIfInBounds]
  by_cases e : i = j
  · subst e
    rw [if_pos rfl, if_pos (by rw [tab_size]; exact h), tab_at _ _ h, rowAt, if_pos (by omega)]
  · rw [if_neg e]
    by_cases hj : j < 256
    · rw [tab_at _ _ hj, tab_at _ _ hj, rowAt, rowAt]
      by_cases hl : j < i
      · rw [if_pos hl, if_pos (by omega)]
      · rw [if_neg hl, if_neg (by omega)]
    · rw [Array.getElem?_eq_none (by rw [tab_size]; omega), Array.getElem?_eq_none (by rw [tab_size]; omega)]

def less (i : Nat) : Nat := i &&& (i - 1)
theorem less_all : ∀ i : Fin 256, bits .and .i64 (i.val : Int) ((i.val : Int) - 1) = (less i.val : Int) ∧ bits .xor .i64 (i.val : Int) (less i.val : Int) = ((i.val ^^^ less i.val : Nat) : Int) ∧ (less i.val ≠ 0 → less i.val < i.val ∧ i.val ^^^ less i.val < i.val) := by decide +kernel
theorem left_less (i : Nat) : left (less i) ^^^ left (i ^^^ less i) = left i := by
  unfold left
  rw [← Tn_xor, ← BitVec.ofNat_xor]
  congr 2
  rw [Nat.xor_comm i, ← Nat.xor_assoc, Nat.xor_self, Nat.zero_xor]

theorem zero42 : (Try.prog.info? 65).map (fun i => (i.zero, i.size)) = some (some (.agg (tab 0)), 256) := by kernel_rfl

theorem row_cell {w : World} {b : Nat} {cur : Array Value} {t : TypeId} (h : w.heap[b]? = some (.cells cur t (0, 0))) (i : Nat) : w.cell? ⟨b, i, none⟩ = cur[i]? := by
  simp [World.cell?, h]
theorem row_frozen {w : World} {b : Nat} {cur : Array Value} {t : TypeId} (h : w.heap[b]? = some (.cells cur t (0, 0))) (i : Nat) : w.frozen? ⟨b, i, none⟩ = false := by
  simp [World.frozen?, h]
theorem heap_set_same {w : World} {b i : Nat} {cur : Array Value} {t : TypeId} (v : Value) (h : w.heap[b]? = some (.cells cur t (0, 0))) : (w.setCell ⟨b, i, none⟩ v).heap[b]? = some (.cells (cur.setIfInBounds i v) t (0, 0)) := heap_setCell_same w b i cur t v h
theorem heap_set_other {w : World} {b i k : Nat} (v : Value) (h : k ≠ b) : (w.setCell ⟨b, i, none⟩ v).heap[k]? = w.heap[k]? := Below.heap_setCell w _ v k h

theorem setRow_same {w : World} {b : Nat} {cur : Array Value} {t : TypeId} (c : Array Value) (h : w.heap[b]? = some (.cells cur t (0, 0))) : (w.setRow b c).heap[b]? = some (.cells c t (0, 0)) := by
  simp [World.setRow, Array.getElem?_modify, h]
theorem setRow_other {w : World} {b k : Nat} (c : Array Value) (h : k ≠ b) : (w.setRow b c).heap[k]? = w.heap[k]? := by
  simp [World.setRow, Array.getElem?_modify, Ne.symm h]
theorem below_setRow {B b : Nat} {a w : World} (h : Below B a w) (hb : B ≤ b) (c : Array Value) : Below B a (w.setRow b c) :=
  ⟨h.os, h.tape, h.output, by simpa [World.setRow] using h.size, fun k hk => by rw [setRow_other c (by omega)]; exact h.block k hk⟩

theorem wp_load_row {P : Program} {op : Oper} {a : Act} {w : World} {K : Act → World → Prop} {Q : Exit → Act → World → Prop} (ty : TypeId) (x : Operand) (ho : op.op = .load ty x)
    (b : Nat) (hx : a.eval x = .pointer (some ⟨b, 0, none⟩)) (cs : Array Value) (t : TypeId) (n : Nat) (e : TypeId) (hg : w.heap[b]? = some (.cells cs t (0, 0)))
    (hu : P.underlying ty = some (.array n e)) (hi : (P.info? ty).map (·.size) = some cs.size)
    (h : K (a.put op.dst (.agg cs)) w) : op.wp P a w K Q := by
  unfold Oper.wp execOp
  simp only [ho, hx, Instr.loadAt, Instr.sureAddr, Sem.run_bind, Sem.run_pure, Result.andThen_ok, run_loadVar_row w b t ty cs (0, 0) _ hg hu rfl hi]
  exact h
theorem wp_store_row {P : Program} {op : Oper} {a : Act} {w : World} {K : Act → World → Prop} {Q : Exit → Act → World → Prop} (ty : TypeId) (x y : Operand) (ho : op.op = .store ty x y)
    (b : Nat) (cells old : Array Value) (t : TypeId) (hx : a.eval x = .pointer (some ⟨b, 0, none⟩)) (hy : a.eval y = .agg cells)
    (hg : w.heap[b]? = some (.cells old t (0, 0))) (hs : old.size = cells.size) (hi : (P.info? ty).map (·.size) = some cells.size) (h1 : cells.all (·.oneCell') = true)
    (h : K (a.put op.dst undef) (w.setRow b cells)) : op.wp P a w K Q := by
  unfold Oper.wp execOp
  simp only [ho, hx, hy, Instr.storeAt, Instr.sureAddr, Sem.run_bind, Sem.run_pure, Result.andThen_ok, run_storeVar_row w b t ty old cells hg hi hs h1]
  exact h
theorem results_cell {fn : Func} {p : Tmp} {ty : TypeId} (h : fn.results = #[.cell p ty]) (tmps : Array Value) (P : Program) (w : World) :
    (results fn tmps).run P w = ((asAddr (tmps.getD p undef)).run P w).andThen fun a w₁ => (loadVar ty a).run P w₁ := by
  simp only [results, h]
  simp [Sem.run_bind, Result.andThen]
theorem run_storeCells_row {P : Program} (w : World) (b : Nat) (t ty : TypeId) (old c : Array Value) (hg : w.heap[b]? = some (.cells old t (0, 0))) (hi : (P.info? ty).map (·.size) = some c.size) (ho : old.size = c.size) (h1 : c.all (·.oneCell') = true) :
    (storeCells ⟨b, 0, none⟩ c.toList 0).run P w = .ok () (w.setRow b c) := by
  have := run_storeVar_row (P := P) w b t ty old c hg hi ho h1
  cases hq : P.info? ty with
  | none => simp [hq] at hi
  | some i =>
    have hs : c.size = i.size := by simp [hq] at hi; omega
    simpa [storeVar, sizeOf, typeInfo, hq, Value.cells, hs] using this
theorem tab_one (i : Nat) : (tab i).all (·.oneCell') = true := by
  rw [Array.all_eq_true_iff_forall_mem]
  intro v hv
  simp only [tab, List.mem_toArray, List.mem_map] at hv
  obtain ⟨j, _, rfl⟩ := hv
  rfl

structure TabAt (w : World) (i : Nat) (wx : World) : Prop where
  row : wx.heap[w.heap.size + 1]? = some (.cells (tab i) 65 (0, 0))
  out : wx.heap[w.heap.size]? = some (.cells (tab 0) 65 (0, 0))
  below : Below w.heap.size w wx
theorem TabAt.drew {w wx : World} {i : Nat} (h : TabAt w i wx) : TabAt w i wx.drew := ⟨h.row, h.out, h.below.drew⟩
theorem TabAt.next {w wx : World} {i : Nat} (h : TabAt w i wx) (hi : i < 256) : TabAt w (i + 1) (wx.setCell ⟨w.heap.size + 1, i, none⟩ (.int .u64 ((left i).toNat : Int))) :=
  ⟨by rw [heap_set_same _ h.row, tab_next i hi], by rw [heap_set_other _ (by omega)]; exact h.out, h.below.setCell (by simp) _⟩

set_option maxHeartbeats 800000 in
set_option maxRecDepth 100000 in
theorem table_any (w : World) : Calls Try.prog 42 #[] w fun e w' => e = .returned (.agg (tab 256)) ∧ Below w.heap.size w w' := by
  obtain ⟨hz, hi⟩ := zero_of_info zero42
  have HI : Hid _ := hi
  clear hi
  have h0 : TabAt w 0 ((w.alloc (.cells (tab 0) 65)).alloc (.cells (tab 0) 65)) :=
    ⟨by simpa using (heap_alloc_last (w.alloc (.cells (tab 0) 65)) (.cells (tab 0) 65)), by rw [Below.heap_alloc _ _ _ (by simp)]; exact heap_alloc_last _ _, ((Below.refl _ _).alloc (Nat.le_refl _) _).alloc (by simp) _⟩
  have H0 : Hid _ := h0
  clear h0
  go_enter Try.func42, Try.ntmps42
  go_wp2
  clear hz
  go_loopw [5] (fun s wx => ∃ i : Nat, i ≤ 256 ∧ s = .int .i64 i ∧ TabAt w i wx) (fun s _ => 256 - (intOf s).toNat)
  case atStart => exact ⟨0, by omega, rfl, H0.out⟩
  case round =>
    obtain ⟨i, hi, rfl, hat⟩ := hrel
    have HT : Hid (TabAt w i wr) := hat
    by_cases hlt : i < 256
    · have hlz : (i : Int) < 256 := by omega
      obtain ⟨m, hm⟩ : ∃ m, m = less i := ⟨_, rfl⟩
      obtain ⟨h1, h2, h3⟩ := less_all ⟨i, hlt⟩
      simp only at h1 h2 h3
      rw [← hm] at h1 h2 h3
      have HM : Hid (m = less i) := hm
      clear hm
      have hci : wr.cell? ⟨w.heap.size + 1, i, none⟩ = some (rowAt i i) := by rw [row_cell hat.row, tab_at i i hlt]
      have hfi := row_frozen hat.row i
      by_cases hm0 : m = 0
      · subst hm0
        clear h2 h3 hat
        go_wp2
        go_loopw [27, 4] (fun s t wx => ∃ j : Nat, j ≤ 8 ∧ s = .int .i64 j ∧ t = .int .u64 ((Tn j (BitVec.ofNat 64 i)).toNat : Int) ∧ wx = wr) (fun s _ _ => 8 - (intOf s).toNat)
        case atStart => exact ⟨0, by omega, rfl, by simp [Tn]; omega, rfl⟩
        case round =>
          obtain ⟨j, hj, rfl, rfl, rfl⟩ := hrel
          by_cases hj8 : j < 8
          · go_wp2_with fail
            refine (timesX_any _ _).mono ?_
            rintro _ _ ⟨rfl, rfl⟩
            go_wp2
            exact ⟨⟨j + 1, by omega, by go_num, rfl, trivial⟩, by simp [intOf]; omega⟩
          · obtain rfl : j = 8 := by omega
            go_wp2
            exact ⟨⟨i + 1, by omega, by go_num, HT.out.next hlt⟩, by simp [intOf]; omega⟩
      · obtain ⟨h4, h5⟩ := h3 hm0
        clear h3
        have hm1 : ((m : Int) == 0) = false := by rw [beq_eq_false_iff_ne]; omega
        have hcm : wr.cell? ⟨w.heap.size + 1, m, none⟩ = some (.int .u64 ((left m).toNat : Int)) := by rw [row_cell hat.row, tab_done i m h4 hi]
        have hcx : wr.cell? ⟨w.heap.size + 1, i ^^^ m, none⟩ = some (.int .u64 ((left (i ^^^ m)).toNat : Int)) := by rw [row_cell hat.row, tab_done i _ h5 hi]
        have hm2 : (m : Int) < 256 := by omega
        have hm3 : ((i ^^^ m : Nat) : Int) < 256 := by omega
        obtain ⟨q, hq⟩ : ∃ q, q = i ^^^ m := ⟨_, rfl⟩
        rw [← hq] at h2 hcx hm3
        have HQ : Hid (q = i ^^^ m) := hq
        clear hq h5 hat
        go_wp2
        go_region
        go_wp2
        have e : bits BinOp.xor IntKind.u64 ((left m).toNat : Int) ((left q).toNat : Int) = ((left i).toNat : Int) := by rw [xor64, HQ.out, HM.out, left_less]
        rw [e]
        exact ⟨⟨i + 1, by omega, by go_num, (HT.out.next hlt).drew⟩, by simp [intOf]; omega⟩
    · obtain rfl : i = 256 := by omega
      clear hat
      go_wp2
      refine wp_load_row 65 (.tmp 1) rfl (w.heap.size + 1) rfl (tab 256) 65 256 24 HT.out.row Try.underlying65 (by rw [tab_size]; exact HI.out) ?_
      have hsc := run_storeCells_row (P := Try.prog) wr w.heap.size 65 65 (tab 0) (tab 256) HT.out.out (by rw [tab_size]; exact HI.out) (by rw [tab_size, tab_size]) (tab_one _)
      go_wp2
      refine bodyPost_ret (v := .agg (tab 256)) ?_ rfl ⟨rfl, below_setRow HT.out.below (Nat.le_refl _) _⟩
      rw [results_cell rfl]
      have hld := run_loadVar_row (P := Try.prog) (wr.setRow w.heap.size (tab 256)) w.heap.size 65 65 (tab 256) (0, 0) _ (setRow_same _ HT.out.out) Try.underlying65 rfl (by rw [tab_size]; exact HI.out)
      simp [asAddr, Result.andThen, hld]
end Go.Proofs.Ytafkimhnllnopaa
