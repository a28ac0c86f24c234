/- MaxFunc; the rules; which rule is of a kind. -/
import Derived.Test.YtejenfcfngjaaaaBest
namespace Go.Proofs.Ytejenfcfngjaaaa
open Go.RowKit

theorem better_of (W : List Int) (m x : Int) : better W m x = if 0 < cmpI (wt W x) (wt W m) then x else m := by
  unfold better cmpI
  by_cases h1 : wt W x < wt W m
  · have h2 : ¬ wt W m < wt W x := by omega
    simp [h1, h2]
  · by_cases h2 : wt W m < wt W x
    · simp [h1, h2]
    · simp [h1, h2]
theorem cands_at {W C : List Int} (h : Cands W C) {x : Int} (hx : x ∈ C) : ∃ i : Nat, x = (i : Int) ∧ i < W.length := by
  obtain ⟨i, e, hi, _⟩ := h.mem x hx
  exact ⟨i, e, hi⟩
set_option maxHeartbeats 1600000 in
set_option maxRecDepth 100000 in
theorem max_any {w : World} {b : Nat} {v u : Value} {W C : List Int} (h : CellW w b v W) (hu : IntsAt w u C) (hC : Cands W C) (h0 : C ≠ []) (hs : W.length ≤ 140737488355328) :
    Calls Try.prog 28 #[u, .func (.func 29) #[] #[.pointer (some ⟨b, 0, none⟩)]] w fun e w' => e = .returned (.int .i64 (bestTo W C C.length)) ∧ Below w.heap.size w w' := by
  obtain ⟨a, c, rfl⟩ := hu.form
  have hcl := hC.len
  have hl : 0 < C.length := List.length_pos_iff.2 h0
  have hlz : ¬ (C.length : Int) < 1 := by omega
  obtain ⟨x0, hx0⟩ : ∃ x, C[0]? = some x := ⟨_, List.getElem?_eq_getElem hl⟩
  obtain ⟨g, off, rfl, hg, k0⟩ := ints_cell hu hx0
  have HX0 : Hid (bestTo W C 1 = x0) := by
    rw [Hid, bestTo_one]
    cases C with
    | nil => simp at hx0
    | cons y C => simpa using hx0
  rw [Nat.add_zero] at k0
  have HU : Hid (IntsAt w (.slice (some ⟨g, off, none⟩) C.length c) C) := hu
  have HW : Hid (CellW w b v W) := h
  have HCA : Hid (Cands W C) := hC
  have HM : Hid (∀ k, bestTo W C k ∈ C) := fun k => bestTo_mem h0
  clear hu h hC h0 hx0
  go_enter Try.func28, Try.ntmps28
  go_wp2_with fail
  go_loopw [5, 6] (fun vm vi wx => ∃ k : Nat, 1 ≤ k ∧ k ≤ C.length ∧ vi = .int .i64 k ∧ vm = .int .i64 (bestTo W C k) ∧ Below w.heap.size w wx) (fun _ vi _ => C.length - (intOf vi).toNat)
  case atStart => exact ⟨1, Nat.le_refl _, hl, rfl, by rw [HX0.out], Below.refl _ _⟩
  case round =>
    obtain ⟨k, hk1, hk, rfl, rfl, hbl⟩ := hrel
    have HBL : Hid _ := hbl
    by_cases hlt : k < C.length
    · have hltz : (k : Int) < (C.length : Int) := by omega
      obtain ⟨x, hx⟩ : ∃ x, C[k]? = some x := ⟨_, List.getElem?_eq_getElem hlt⟩
      obtain ⟨g', off', e', hg', k1⟩ := ints_cell (HU.out.here hbl) hx
      cases e'
      have HNX := bestTo_next (W := W) hx
      rw [better_of] at HNX
      obtain ⟨i, rfl, hi⟩ := cands_at HCA.out (List.mem_of_getElem? hx)
      obtain ⟨j, hj, hjl⟩ := cands_at HCA.out (HM.out k)
      rw [hj] at HNX ⊢
      have HE := heavier_any (HW.out.here hbl) hi hjl
      generalize cmpI (wt W i) (wt W j) = d at HE HNX
      have HN : Hid _ := HNX
      clear hx hj HNX hbl
      by_cases hd : 0 < d
      · have hd2 : d > 0 := hd
        have HN2 : Hid (bestTo W C (k + 1) = (i : Int)) := by rw [Hid, HN.out, if_pos hd]
        go_wp2_with (go_at_call 29; refine HE.mono ?_; rintro r w1 ⟨rfl, n, rfl⟩)
        exact ⟨⟨k + 1, by omega, by omega, by go_num, by rw [HN2.out], below_draws HBL.out _⟩, by simp [intOf]; omega⟩
      · have hd2 : ¬ d > 0 := hd
        have HN2 : Hid (bestTo W C (k + 1) = (j : Int)) := by rw [Hid, HN.out, if_neg hd]
        go_wp2_with (go_at_call 29; refine HE.mono ?_; rintro r w1 ⟨rfl, n, rfl⟩)
        exact ⟨⟨k + 1, by omega, by omega, by go_num, by rw [HN2.out], below_draws HBL.out _⟩, by simp [intOf]; omega⟩
    · have hltz : ¬ (k : Int) < (C.length : Int) := by omega
      have HK : Hid (k = C.length) := by rw [Hid]; omega
      clear hbl
      go_wp2_with fail
      go_ret
      exact ⟨by rw [HK.out]; rfl, HBL.out⟩
set_option maxHeartbeats 800000 in
set_option maxRecDepth 100000 in
theorem greatest_any {w : World} {p : Value} {v u : Value} {W C : List Int} (hv : IntsAt w v W) (hu : IntsAt w u C) (hC : Cands W C) (h0 : C ≠ []) (hs : W.length ≤ 140737488355328) :
    Calls Try.prog 25 #[p, v, u] w fun e w' => e = .returned (.int .i64 (bestTo W C C.length)) ∧ Below w.heap.size w w' := by
  obtain ⟨a, n, rfl⟩ := hv.form
  have HB : Hid (Below w.heap.size w (w.alloc (.cells #[.slice a W.length n] 26))) := below_new _ _
  have HM := max_any (b := w.heap.size) ⟨by rw [row_cell (heap_alloc_last w _)]; rfl, hv.here HB.out, by simp⟩ (hu.here HB.out) hC h0 hs
  obtain ⟨a2, n2, rfl⟩ := hu.form
  clear hv hu
  go_enter Try.func25, Try.ntmps25
  go_wp2_with (go_at_call 28; refine HM.mono ?_; rintro r w1 ⟨rfl, hb⟩; have HB1 : Hid _ := hb; clear hb)
  go_ret
  exact ⟨rfl, HB.out.trans (HB1.out.mono HB.out.size)⟩
/-- A chooser's cells. -/
def chs (c : Ch) (v : Value) : Array Value := #[.int .i64 c.kind, v, .int .i64 c.last, .int .i64 (c.count : Int)]
/-- A chooser of type T at block b. -/
structure ChT (T : TypeId) (base : Nat) (w : World) (b : Nat) (v : Value) (c : Ch) : Prop where
  cells : w.heap[b]? = some (.cells (chs c v) T (0, 0))
  row : NewI base w v c.picks
  low : base ≤ b
  ok : c.Ok
abbrev ChAt := ChT 56
abbrev RefAt := ChT 48
theorem Ch.Ok.short {c : Ch} (h : c.Ok) : c.picks.length ≤ 65536 := by
  have := h.may
  unfold okP at this
  simp only [Bool.and_eq_true, Bool.or_eq_true, decide_eq_true_eq] at this
  omega
theorem Ch.Ok.kinds {c : Ch} (h : c.Ok) : 1 ≤ c.kind ∧ c.kind ≤ 4 := by
  have := h.may
  unfold okP at this
  simp only [Bool.and_eq_true, Bool.or_eq_true, decide_eq_true_eq] at this
  omega
theorem ChT.lt {T : TypeId} {base : Nat} {w : World} {b : Nat} {v : Value} {c : Ch} (h : ChT T base w b v c) : b < w.heap.size := (Array.getElem?_eq_some_iff.1 h.cells).1
theorem ChT.here {T : TypeId} {base : Nat} {w w' : World} {b : Nat} {v : Value} {c : Ch} (h : ChT T base w b v c) (hb : Below w.heap.size w w') : ChT T base w' b v c :=
  ⟨by rw [hb.block b h.lt]; exact h.cells, own_here h.row hb, h.low, h.ok⟩
theorem ChT.cell {T : TypeId} {base : Nat} {w : World} {b : Nat} {v : Value} {c : Ch} (h : ChT T base w b v c) (i : Nat) : w.cell? ⟨b, i, none⟩ = (chs c v)[i]? := row_cell h.cells i
set_option maxHeartbeats 800000 in
set_option maxRecDepth 100000 in
theorem following_any {base b : Nat} {w : World} {v pv u : Value} {c : Ch} {W C : List Int} (h : ChAt base w b pv c) (hu : IntsAt w u C) (hC : Cands W C) (h0 : C ≠ []) (hs : W.length ≤ 140737488355328) :
    Calls Try.prog 26 #[.pointer (some ⟨b, 0, none⟩), v, u] w fun e w' => e = .returned (.int .i64 (nextOf C c.last)) ∧ w' = w := by
  have c2 : w.cell? ⟨b, 2, none⟩ = some (.int .i64 c.last) := h.cell 2
  have hlo := h.ok.lo
  have hhi := h.ok.hi
  have hl : 0 < C.length := List.length_pos_iff.2 h0
  have hcl := hC.len
  have HS := search_any (x := c.last + 1) hu hC.rise (by omega)
  obtain ⟨a, n, rfl⟩ := hu.form
  have HU : Hid (IntsAt w (.slice a C.length n) C) := hu
  clear hu h h0 hC
  go_enter Try.func26, Try.ntmps26
  go_wp2_with (go_at_call 31; refine HS.mono ?_; rintro r w1 ⟨p, bb, rfl, hp, hw1⟩; obtain rfl := hw1.symm; have HP : Hid _ := hp; clear hp)
  have hpl := HP.out.le
  have hm1 : ((p : Int) % (C.length : Int)) = ((p % C.length : Nat) : Int) := by omega
  have hm2 : p % C.length < C.length := Nat.mod_lt _ hl
  have hm3 : (p : Int).tmod (C.length : Int) = ((p % C.length : Nat) : Int) := by rw [Int.tmod_eq_emod_of_nonneg (by omega)]; omega
  obtain ⟨y, hy⟩ : ∃ y, C[p % C.length]? = some y := ⟨_, List.getElem?_eq_getElem hm2⟩
  obtain ⟨g, off, rfl, hg, k0⟩ := ints_cell HU.out hy
  have HR : Hid (nextOf C c.last = y) := by
    rw [Hid, nextOf_at HP.out.le HP.out.lo HP.out.hi, List.getD_eq_getElem?_getD, hy]
    rfl
  have hlz : ¬ (C.length : Int) = 0 := by omega
  have hq0 : (0 : Int) ≤ (p : Int) % (C.length : Int) := by omega
  have hq1 : (p : Int) % (C.length : Int) < (C.length : Int) := by omega
  have hq2 : ((p : Int) % (C.length : Int)).toNat = p % C.length := by omega
  clear hy hm1 hm3
  go_wp2_with fail
  go_simp
  go_wp2_with fail
  go_ret
  exact ⟨by rw [HR.out]; rfl, rfl⟩
end Go.Proofs.Ytejenfcfngjaaaa
