/- Decode. -/
import Derived.Test.YtgifnaahahfhbaaEntry
import Derived.Defers
import Derived.Recover
namespace Go.Proofs.Ytgifnaahahfhbaa
open Go.RowKit

set_option maxRecDepth 100000 in
theorem catch_up (pl pe : Addr) (xl xe : Value) (older : List PanicEntry) (w : World) (h1 : w.cell? pl = some xl) (h2 : w.frozen? pl = false) (h3 : (w.setCell pl (.slice none 0 0)).cell? pe = some xe) (h4 : (w.setCell pl (.slice none 0 0)).frozen? pe = false) :
    CallsD Try.prog 41 #[.pointer (some pl), .pointer (some pe)] (.panicking ({ v := .iface 24 (.int .i64 55), recovered := false } :: older)) w fun e u' w' =>
      e = .returned (.tuple #[]) ∧ u' = .panicking ({ v := .iface 24 (.int .i64 55), recovered := true } :: older) ∧ w' = (w.setCell pl (.slice none 0 0)).setCell pe (.int .i64 55) := by
  refine callsD_of_wpS Try.func41 rfl fun c₀ cs hu => ?_
  apply wpS_seq
  apply wpS_region
  simp [wpOpsS, go_sem, recoverD, hu, Try.ntmps41, Exit.thenS]
  refine wpS_cond (t := true) (by simp [Act.eval, Array.replicate]) ?_
  simp only [if_true]
  apply wpS_region
  simp [wpOpsS, go_sem, h1, h2, h3, h4, bodyPostS, results, Try.results41]

set_option maxRecDepth 100000 in
theorem catch_idle (pl pe : Addr) (w : World) :
    CallsD Try.prog 41 #[.pointer (some pl), .pointer (some pe)] .returning w fun e u' w' => e = .returned (.tuple #[]) ∧ u' = .returning ∧ w' = w := by
  refine callsD_of_wpS Try.func41 rfl fun c₀ cs hu => ?_
  apply wpS_seq
  apply wpS_region
  simp [wpOpsS, go_sem, recoverD, hu, Try.ntmps41, Exit.thenS]
  refine wpS_cond (t := false) (by simp [Act.eval, Array.replicate]) ?_
  simp only [Bool.false_eq_true, if_false]
  refine wpS_of_wp (wp_skip ?_)
  cases c₀
  simp_all [bodyPostS, results, Try.results41]

/-- What Decode leaves. -/
structure DecPost (w : World) (z : Int) (b : Key) (e : Ending) (w' : World) : Prop where
  is : ∃ vl F, e = .returned (.tuple #[vl, .int .i64 (if Sized z then (if (decE z b).isSome then 0 else 55) else 1)]) ∧ NewList w.heap.size w' vl F ∧ F.map It.e = (if Sized z then (decE z b).getD [] else []) ∧ Below w.heap.size w w'
set_option maxRecDepth 100000 in
theorem dec_res (W : World) (g : Nat) (x y : Value) (tmps : Array Value) (h4 : tmps.getD 4 undef = .pointer (some ⟨g, 0, none⟩)) (h5 : tmps.getD 5 undef = .pointer (some ⟨g + 1, 0, none⟩)) (c0 : W.cell? ⟨g, 0, none⟩ = some x) (c1 : W.cell? ⟨g + 1, 0, none⟩ = some y) :
    (results Try.f18 tmps).run Try.prog W = .ok (.tuple #[x, y]) W := by
  rw [Array.getD_eq_getD_getElem?] at h4 h5
  simp [results, Try.results18, go_sem, h4, h5, c0, c1]
theorem dec_up {W : World} {g : Nat} {x y : Value} {tmps : Array Value} {R : Ending → World → Prop} (h4 : tmps.getD 4 undef = .pointer (some ⟨g, 0, none⟩)) (h5 : tmps.getD 5 undef = .pointer (some ⟨g + 1, 0, none⟩)) (c0 : W.heap[g]? = some (.cells #[x] 25 (0, 0))) (c1 : W.heap[g + 1]? = some (.cells #[y] 24 (0, 0)))
    (hR : R (.returned (.tuple #[.slice none 0 0, .int .i64 55])) ((W.setCell ⟨g, 0, none⟩ (.slice none 0 0)).setCell ⟨g + 1, 0, none⟩ (.int .i64 55))) :
    Leaves Try.prog Try.f18 tmps R [{ target := .fn (.func 41) #[.pointer (some ⟨g, 0, none⟩), .pointer (some ⟨g + 1, 0, none⟩)], args := #[] }] (.panicking gaveUp) W := by
  have d1 : (W.setCell ⟨g, 0, none⟩ (.slice none 0 0)).heap[g + 1]? = some (.cells #[y] 24 (0, 0)) := by rw [heap_set_other _ (by omega)]; exact c1
  have d2 : (W.setCell ⟨g, 0, none⟩ (.slice none 0 0)).heap[g]? = some (.cells #[.slice none 0 0] 25 (0, 0)) := heap_set_same _ c0
  have d3 : ((W.setCell ⟨g, 0, none⟩ (.slice none 0 0)).setCell ⟨g + 1, 0, none⟩ (.int .i64 55)).heap[g]? = some (.cells #[.slice none 0 0] 25 (0, 0)) := by rw [heap_set_other _ (by omega)]; exact d2
  have d4 : ((W.setCell ⟨g, 0, none⟩ (.slice none 0 0)).setCell ⟨g + 1, 0, none⟩ (.int .i64 55)).heap[g + 1]? = some (.cells #[.int .i64 55] 24 (0, 0)) := heap_set_same _ d1
  refine leaves_cons (f := 41) (args := #[.pointer (some ⟨g, 0, none⟩), .pointer (some ⟨g + 1, 0, none⟩)]) (by simp) (by simp [go_sem]) ?_
  refine (catch_up ⟨g, 0, none⟩ ⟨g + 1, 0, none⟩ x y [] W (by rw [row_cell c0]; rfl) (row_frozen c0 _) (by rw [row_cell d1]; rfl) (row_frozen d1 _)).mono ?_
  rintro e u' w'' ⟨rfl, rfl, rfl⟩
  exact ⟨_, dec_res _ g _ _ tmps h4 h5 (by rw [row_cell d3]; rfl) (by rw [row_cell d4]; rfl), hR⟩
theorem dec_back {W : World} {g : Nat} {x y : Value} {tmps : Array Value} {R : Ending → World → Prop} (h4 : tmps.getD 4 undef = .pointer (some ⟨g, 0, none⟩)) (h5 : tmps.getD 5 undef = .pointer (some ⟨g + 1, 0, none⟩)) (c0 : W.heap[g]? = some (.cells #[x] 25 (0, 0))) (c1 : W.heap[g + 1]? = some (.cells #[y] 24 (0, 0)))
    (hR : R (.returned (.tuple #[x, y])) W) :
    Leaves Try.prog Try.f18 tmps R [{ target := .fn (.func 41) #[.pointer (some ⟨g, 0, none⟩), .pointer (some ⟨g + 1, 0, none⟩)], args := #[] }] .returning W := by
  refine leaves_cons (f := 41) (args := #[.pointer (some ⟨g, 0, none⟩), .pointer (some ⟨g + 1, 0, none⟩)]) (by simp) (by simp [go_sem]) ?_
  refine (catch_idle ⟨g, 0, none⟩ ⟨g + 1, 0, none⟩ W).mono ?_
  rintro e u' w'' ⟨rfl, rfl, rfl⟩
  exact ⟨_, dec_res _ g _ _ tmps h4 h5 (by rw [row_cell c0]; rfl) (by rw [row_cell c1]; rfl), hR⟩

theorem NewList.shape {base : Nat} {w : World} {v : Value} {F : List It} (h : NewList base w v F) : ∃ a n c, v = .slice a n c := by
  rcases own_row h.own with ⟨rfl, _⟩ | ⟨g, c, rfl, _⟩
  · exact ⟨_, _, _, rfl⟩
  · exact ⟨_, _, _, rfl⟩
theorem keep_set {B g i : Nat} {w : World} {cur : Array Value} {T : TypeId} (h : w.heap[g]? = some (.cells cur T (0, 0))) (hB : B ≤ g) (u : Value) : Keep T B w (w.setCell ⟨g, i, none⟩ u) := by
  refine ⟨(Below.refl _ _).setCell hB _, fun k cur' t z ht hk => ?_⟩
  rw [heap_set_other u]
  · exact hk
  · rintro rfl
    rw [h] at hk
    simp only [Option.some.injEq, Obj.cells.injEq] at hk
    exact ht hk.2.1.symm
/-- What Decode makes of what was read. -/
def decR (z : Int) (x : Option (List En × Key)) : Option (List En) :=
  match x with
  | some (l, []) => if checkE z l = 0 then some l else none
  | _ => none
theorem decE_read {z : Int} {b : Key} (h : ¬ (z.toNat - 32 < b.length ∨ b.length < 2)) : decE z b = decR z (readF (num2 b) [] (b.drop 2)) := by
  unfold decE decR
  rw [if_neg h]
  rfl
/-- What is read is a beginning of what is to be read. -/
theorem read_none {N k : Nat} {p rest b2 : Key} {l : List En} (hk : k < N) (h : readF N [] b2 = (readF (N - k) p rest).map fun x => (l ++ x.1, x.2)) (hn : ∀ s x r', read1 p rest = some (s, x, r') → comK p x.k ≠ s) : readF N [] b2 = none := by
  obtain ⟨m, hm⟩ : ∃ m, N - k = m + 1 := ⟨N - k - 1, by omega⟩
  rw [h, hm, readF]
  cases hr : read1 p rest with
  | none => simp
  | some x =>
    obtain ⟨s, e, r'⟩ := x
    simp only
    rw [if_neg (hn s e r' hr)]
    try rfl
theorem read_next {N k : Nat} {p rest b2 r' : Key} {l : List En} {s : Nat} {e : En} (hk : k < N) (h : readF N [] b2 = (readF (N - k) p rest).map fun x => (l ++ x.1, x.2)) (hr : read1 p rest = some (s, e, r')) (hs : comK p e.k = s) : readF N [] b2 = (readF (N - (k + 1)) e.k r').map fun x => ((l ++ [e]) ++ x.1, x.2) := by
  obtain ⟨m, hm⟩ : ∃ m, N - k = m + 1 := ⟨N - k - 1, by omega⟩
  have hm2 : N - (k + 1) = m := by omega
  rw [h, hm, readF, hr, hm2]
  simp only
  rw [if_pos hs]
  simp [Function.comp_def]
theorem read1_short {p b : Key} {s : Nat} {e : En} {r : Key} (h : read1 p b = some (s, e, r)) : r.length ≤ b.length := by
  unfold read1 at h
  split at h
  · cases h
  · simp only at h
    split at h
    · simp only [Option.some.injEq, Prod.mk.injEq] at h
      obtain ⟨_, _, rfl⟩ := h
      simp
    · cases h

theorem readF_bound (n : Nat) (p b : Key) (l : List En) (r : Key) (h : readF n p b = some (l, r)) : ∀ e ∈ l, e.k.length ≤ p.length + b.length ∧ e.v.length ≤ b.length := by
  induction n generalizing p b l r with
  | zero => simp [readF] at h; intro e he; rw [h.1] at he; simp at he
  | succ n ih =>
    simp only [readF] at h
    split at h
    · cases h
    · rename_i s e t he
      split at h
      · cases hr : readF n e.k t with
        | none => rw [hr] at h; cases h
        | some x =>
          rw [hr] at h
          simp only [Option.map_some, Option.some.injEq, Prod.mk.injEq] at h
          obtain ⟨rfl, rfl⟩ := h
          have hx := ih e.k t x.1 x.2 hr
          unfold read1 at he
          split at he
          · cases he
          · simp only at he
            split at he
            · rename_i hb _ hc
              simp only [Option.some.injEq, Prod.mk.injEq] at he
              obtain ⟨rfl, rfl, rfl⟩ := he
              intro y hy
              rcases List.mem_cons.1 hy with rfl | hy
              · simp; omega
              · have := hx y hy
                simp at this ⊢
                omega
            · cases he
      · cases h
theorem weightE_le (l : List En) (m : Nat) (h : ∀ e ∈ l, e.k.length ≤ m ∧ e.v.length ≤ m) : weightE l ≤ l.length * (1 + 2 * m) := by
  induction l with
  | nil => simp [weightE]
  | cons e r ih =>
    have h1 := h e (List.mem_cons_self ..)
    have h2 := ih fun x hx => h x (List.mem_cons_of_mem _ hx)
    simp only [weightE, List.length_cons, Nat.add_mul]
    omega

set_option maxHeartbeats 1600000 in
set_option maxRecDepth 100000 in
theorem decode_any {w : World} {v : Value} {b : Key} {z : Int} (hv : KeyAt w v b) :
    Calls Try.prog 18 #[.int .i64 z, v] w fun e w' => DecPost w z b e w' := by
  have hmf : ∀ (fn : Fn) (first cap : Array Value) (w : World), (Instr.makeFunc fn first cap).run Try.prog w = .ok (.func fn first cap) w := fun _ _ _ _ => rfl
  have HRO : Hid (∀ w, Calls Try.prog 40 #[.int .i64 z] w fun r w' => r = .returned (.int .i64 (if Sized z then z - 32 else 0)) ∧ ∃ q, w' = w.drewN q) := fun w => roomOf_any w z
  obtain ⟨a, c, rfl⟩ := hv.in.form
  have HV : Hid (KeyAt w (.slice a b.length c) b) := hv
  have hbs := hv.short
  clear hv
  obtain ⟨W0, hW0⟩ : ∃ W0, W0 = (w.alloc (.cells #[.slice none 0 0] 25)).alloc (.cells #[.int .i64 0] 24) := ⟨_, rfl⟩
  have HB0 : Hid (Below w.heap.size w W0) := by rw [hW0]; exact (below_new w _).alloc (by simp) _
  have r0 : W0.heap[w.heap.size]? = some (.cells #[.slice none 0 0] 25 (0, 0)) := by
    rw [hW0, Below.heap_alloc _ _ _ (by simp)]; exact heap_alloc_last w _
  have r1 : W0.heap[w.heap.size + 1]? = some (.cells #[.int .i64 0] 24 (0, 0)) := by
    have := heap_alloc_last (w.alloc (.cells #[.slice none 0 0] 25)) (.cells #[.int .i64 0] 24)
    rw [hW0]; simpa using this
  have HR0 : Hid _ := r0
  have HR1 : Hid _ := r1
  have k0 : W0.cell? ⟨w.heap.size, 0, none⟩ = some (.slice none 0 0) := by rw [row_cell r0]; rfl
  have k1 : W0.cell? ⟨w.heap.size + 1, 0, none⟩ = some (.int .i64 0) := by rw [row_cell r1]; rfl
  have f0 : W0.frozen? ⟨w.heap.size, 0, none⟩ = false := row_frozen r0 _
  have f1 : W0.frozen? ⟨w.heap.size + 1, 0, none⟩ = false := row_frozen r1 _
  have m0 : ∀ q, ((W0.drewN q).alloc (.cells #[.slice none 0 0] 68)).cell? ⟨W0.heap.size, 0, none⟩ = some (.slice none 0 0) := fun q => (row_cell (heap_alloc_last (W0.drewN q) _) 0).trans rfl
  have m1 : ∀ q, ((W0.drewN q).alloc (.cells #[.slice none 0 0] 68)).frozen? ⟨W0.heap.size, 0, none⟩ = false := fun q => row_frozen (heap_alloc_last (W0.drewN q) _) _
  clear r0 r1
  by_cases hz : Sized z
  · have hzz := sized_le hz
    have hzn : (z - 32 == 0) = false := by rw [beq_eq_false_iff_ne]; omega
    have HRO' : Hid (∀ w, Calls Try.prog 40 #[.int .i64 z] w fun r w' => r = .returned (.int .i64 (z - 32)) ∧ ∃ q, w' = w.drewN q) := by
      intro w; have := HRO.out w; rw [if_pos hz] at this; exact this
    have HZ : Hid (Sized z) := hz
    have HUP : Hid (∀ W x, Below w.heap.size w W → W.heap[w.heap.size]? = some (.cells #[x] 25 (0, 0)) → W.heap[w.heap.size + 1]? = some (.cells #[.int .i64 0] 24 (0, 0)) → decE z b = none → ∀ tmps : Array Value, tmps.getD 4 undef = .pointer (some ⟨w.heap.size, 0, none⟩) → tmps.getD 5 undef = .pointer (some ⟨w.heap.size + 1, 0, none⟩) →
        Leaves Try.prog Try.f18 tmps (fun e w' => DecPost w z b e w') [{ target := .fn (.func 41) #[.pointer (some ⟨w.heap.size, 0, none⟩), .pointer (some ⟨w.heap.size + 1, 0, none⟩)], args := #[] }] (.panicking gaveUp) W) := by
      intro W x hb c0 c1 hn tmps h4 h5
      exact dec_up h4 h5 c0 c1 ⟨.slice none 0 0, [], by rw [hn, if_pos hz]; rfl, NewList.nil _ _, by rw [hn, if_pos hz]; rfl, (hb.setCell (Nat.le_refl _) _).setCell (Nat.le_succ _) _⟩
    clear HRO hz
    go_enter_defers Try.func18, Try.ntmps18
    go_wp2_with fail
    rw [← hW0]
    clear hW0
    refine (HRO'.out _).mono ?_
    rintro e w1 ⟨rfl, q1, rfl⟩
    by_cases hbl : b.length ≤ z.toNat - 32
    · have hblz : (b.length : Int) ≤ z - 32 := by omega
      go_wp2_with (first
        | (go_at_call 40; refine (HRO'.out _).mono ?_; rintro e w2 ⟨rfl, q2, rfl⟩)
        | (go_at_call 42; refine (must_true _).mono ?_; rintro e w4 ⟨rfl, hw4⟩; have hw5 := hw4.symm; subst hw5))
      obtain ⟨WR, hWR⟩ : ∃ WR, WR = ((W0.drewN (q1 + q2)).alloc (.cells #[.slice none 0 0] 68)).setCell ⟨W0.heap.size, 0, none⟩ (.slice a b.length c) := ⟨_, rfl⟩
      rw [← hWR]
      have hsz0 := HB0.out.size
      have HBA : Hid (Below W0.heap.size W0 ((W0.drewN (q1 + q2)).alloc (.cells #[.slice none 0 0] 68))) := (below_draws (Below.refl _ _) _).alloc (Nat.le_refl _) _
      have hrb : RBox ((W0.drewN (q1 + q2)).alloc (.cells #[.slice none 0 0] 68)) W0.heap.size (.slice none 0 0) := ⟨heap_alloc_last (W0.drewN (q1 + q2)) _⟩
      have HRB : Hid (RBox WR W0.heap.size (.slice a b.length c)) := by rw [hWR]; exact hrb.set _
      have HKR : Hid (Keep 68 w.heap.size W0 WR) := by rw [hWR]; exact (Keep.of HBA.out hsz0).trans (hrb.keepR hsz0 _)
      have HB1 : Hid (Below w.heap.size w WR) := HB0.out.trans HKR.out.low
      have HV1 : Hid (KeyIn w.heap.size WR (.slice a b.length c) b) := HV.out.in.below HB1.out
      have HC0 : Hid (WR.heap[w.heap.size]? = some (.cells #[.slice none 0 0] 25 (0, 0))) := HKR.out.typ _ _ _ _ (by decide) HR0.out
      have HC1 : Hid (WR.heap[w.heap.size + 1]? = some (.cells #[.int .i64 0] 24 (0, 0))) := HKR.out.typ _ _ _ _ (by decide) HR1.out
      clear hWR hrb HBA m0 m1 k0 k1 f0 f1
      by_cases hb2 : b.length < 2
      · have HNO : Hid (decE z b = none) := by unfold Hid decE; rw [if_pos (by omega)]
        refine (number_up HRB.out HV1.out hb2).mono ?_
        rintro e w2 ⟨rfl, hw2⟩
        have hw3 := hw2.symm
        subst hw3
        exact HUP.out _ _ HB1.out HC0.out HC1.out HNO.out _ rfl rfl
      · have HDE : Hid (decE z b = decR z (readF (num2 b) [] (b.drop 2))) := decE_read (by omega)
        refine (number_ok HRB.out hsz0 HV1.out (by omega)).mono ?_
        rintro e w2 ⟨rfl, v2, hr2, hv2, hk2⟩
        have HR2 : Hid (RBox w2 W0.heap.size v2) := hr2
        have HV2 : Hid (KeyIn w.heap.size w2 v2 (b.drop 2)) := hv2
        have HB2 : Hid (Below w.heap.size w w2) := HB1.out.trans hk2.low
        have HD0 : Hid (w2.heap[w.heap.size]? = some (.cells #[.slice none 0 0] 25 (0, 0))) := hk2.typ _ _ _ _ (by decide) HC0.out
        have HD1 : Hid (w2.heap[w.heap.size + 1]? = some (.cells #[.int .i64 0] 24 (0, 0))) := hk2.typ _ _ _ _ (by decide) HC1.out
        have hN := num2_lt b
        have hb3 : (b.drop 2).length ≤ 4096 := by simp; omega
        have hb4 : b.length ≤ 4096 := by omega
        clear hr2 hv2 hk2
        generalize num2 b = N at *
        generalize b.drop 2 = b2 at *
        go_wp2_with fail
        go_loopw [20] (fun i wx => ∃ (k : Nat) (vl : Value) (F : List It) (v : Value) (rest : Key), k ≤ N ∧ i = .int .i64 k ∧ F.length = k ∧ NewList w.heap.size wx vl F ∧ RBox wx W0.heap.size v ∧ KeyIn w.heap.size wx v rest ∧ rest.length ≤ 4096 ∧ wx.heap[w.heap.size]? = some (.cells #[vl] 25 (0, 0)) ∧ wx.heap[w.heap.size + 1]? = some (.cells #[.int .i64 0] 24 (0, 0)) ∧ Below w.heap.size w wx ∧
            readF N [] b2 = (readF (N - k) (prevK (F.map It.e) k) rest).map fun x => (F.map It.e ++ x.1, x.2)) (fun i _ => N - (intOf i).toNat)
        case atStart => exact ⟨0, .slice none 0 0, [], v2, b2, Nat.zero_le _, rfl, rfl, NewList.nil _ _, HR2.out, HV2.out, hb3, HD0.out, HD1.out, HB2.out, by simp [prevK, prevF]⟩
        case round =>
          obtain ⟨k, vl, F, v, rest, hk, rfl, hFk, hF, hrb, hvr, hrl, hc0, hc1, hbw, hrd⟩ := hrel
          obtain ⟨al, nl, cl, evl⟩ := hF.shape
          subst evl
          have HFK : Hid (F.length = k) := hFk
          have HF : Hid (NewList w.heap.size wr (.slice al nl cl) F) := hF
          have HRB2 : Hid (RBox wr W0.heap.size v) := hrb
          have HVR : Hid (KeyIn w.heap.size wr v rest) := hvr
          have HE0 : Hid _ := hc0
          have HE1 : Hid _ := hc1
          have HBW : Hid (Below w.heap.size w wr) := hbw
          have HRD : Hid _ := hrd
          have k0 : wr.cell? ⟨w.heap.size, 0, none⟩ = some (.slice al nl cl) := by rw [row_cell hc0]; rfl
          have f0 : wr.frozen? ⟨w.heap.size, 0, none⟩ = false := row_frozen hc0 _
          have hwsz := hbw.size
          clear hFk hF hrb hvr hc0 hc1 hbw hrd
          by_cases hlt : k < N
          · have hzl : (k : Int) < (N : Int) := by omega
            have HEN := entry_any HRB2.out hsz0 HVR.out HF.out (Nat.le_refl _) hwsz (by rw [HFK.out]; omega) (by omega)
            go_wp2_with fail
            refine HEN.mono ?_
            rintro e w5 ⟨hfr, hor⟩
            have HFR : Hid (Fr w.heap.size wr w5) := hfr
            rcases hor with ⟨rfl, hno⟩ | ⟨s, y, r', v', vl', rfl, hr1, hcs, hrb5, hvr5, hF5⟩
            · have HNO : Hid (decE z b = none) := by
                rw [HFK.out] at hno
                rw [Hid, HDE.out, read_none hlt HRD.out hno]; rfl
              exact HUP.out _ _ (HBW.out.trans HFR.out.low) (HFR.out.typ _ _ _ _ (.inl rfl) HE0.out) (HFR.out.typ _ _ _ _ (.inr rfl) HE1.out) HNO.out _ rfl rfl
            · obtain ⟨al5, nl5, cl5, evl⟩ := hF5.shape
              subst evl
              have HF5 : Hid (NewList w.heap.size w5 (.slice al5 nl5 cl5) (F ++ [y])) := hF5
              have HRB5 : Hid (RBox w5 W0.heap.size v') := hrb5
              have HVR5 : Hid (KeyIn w.heap.size w5 v' r') := hvr5
              have HG0 : Hid (w5.heap[w.heap.size]? = some (.cells #[.slice al nl cl] 25 (0, 0))) := HFR.out.typ _ _ _ _ (.inl rfl) HE0.out
              have HG1 : Hid (w5.heap[w.heap.size + 1]? = some (.cells #[.int .i64 0] 24 (0, 0))) := HFR.out.typ _ _ _ _ (.inr rfl) HE1.out
              have HK6 : Hid (Keep 25 w.heap.size w5 (w5.setCell ⟨w.heap.size, 0, none⟩ (.slice al5 nl5 cl5))) := keep_set HG0.out (Nat.le_refl _) _
              have HRD5 : Hid (readF N [] b2 = (readF (N - (k + 1)) y.e.k r').map fun x => ((F.map It.e ++ [y.e]) ++ x.1, x.2)) := by
                rw [HFK.out] at hr1 hcs
                exact read_next hlt HRD.out hr1 hcs
              have hrl5 : r'.length ≤ 4096 := Nat.le_trans (read1_short hr1) hrl
              have kk : w5.cell? ⟨w.heap.size, 0, none⟩ = some (.slice al nl cl) := by rw [row_cell HG0.out]; rfl
              have ff : w5.frozen? ⟨w.heap.size, 0, none⟩ = false := row_frozen HG0.out _
              clear hr1 hcs hrb5 hvr5 hF5 hfr k0 f0
              go_wp2
              refine ⟨⟨k + 1, (.slice al5 nl5 cl5), F ++ [y], v', r', by omega, by go_num, by simp [HFK.out], HF5.out.keep HK6.out (by decide) (by decide), HRB5.out.keep HK6.out (by decide), HVR5.out.below HK6.out.low, hrl5, heap_set_same _ HG0.out, HK6.out.typ _ _ _ _ (by decide) HG1.out, (HBW.out.trans HFR.out.low).trans HK6.out.low, ?_⟩, by simp [intOf]; omega⟩
              have hp : prevK ((F ++ [y]).map It.e) (k + 1) = y.e.k := by rw [← HFK.out]; exact prevK_succ (by simp)
              rw [hp, List.map_append]
              exact HRD5.out
          · have hzl : ¬ (k : Int) < (N : Int) := by omega
            have hkN : N - k = 0 := by omega
            have HRF : Hid (readF N [] b2 = some (F.map It.e, rest)) := by rw [Hid, HRD.out, hkN, readF]; simp
            obtain ⟨av, cv, ev⟩ := HVR.out.form
            subst ev
            have kr := HRB2.out.cell
            have HDR : Hid (decE z b = decR z (some (F.map It.e, rest))) := by rw [Hid, HDE.out, HRF.out]
            by_cases hr0 : rest = []
            · subst hr0
              have HL : Hid (ListAt wr.heap.size wr (.slice al nl cl) F) := HF.out.list (by rw [HFK.out]; omega)
              have HWT : Hid (weightE (F.map It.e) ≤ 4294967296) := by
                have h1 := readF_bound _ _ _ _ _ HRF.out
                have h2 := weightE_le (F.map It.e) 4096 (fun e he => by have := h1 e he; simp at this; omega)
                rw [List.length_map, HFK.out] at h2
                have h3 : k * (1 + 2 * 4096) ≤ 65536 * (1 + 2 * 4096) := Nat.mul_le_mul_right _ (by omega)
                unfold Hid
                omega
              have HCK := check_any (z := z) HL.out HWT.out
              by_cases hck : checkE z (F.map It.e) = 0
              · have HDZ : Hid (decE z b = some (F.map It.e)) := by rw [Hid, HDR.out]; simp [decR, hck]
                rw [hck] at HCK
                clear hck
                go_wp2_with (first
                  | (go_at_call 42; refine (must_true _).mono ?_; rintro e w4 ⟨rfl, hw4⟩; have hw5 := hw4.symm; subst hw5)
                  | (go_at_call 30; refine HCK.mono ?_; rintro e w6 ⟨rfl, hb6⟩
                     have HB6 : Hid (Below wr.heap.size wr w6) := hb6
                     have n0 : w6.cell? ⟨w.heap.size, 0, none⟩ = some (.slice al nl cl) := by rw [hb6.cell (Nat.lt_of_lt_of_le (Array.getElem?_eq_some_iff.1 HE0.out).1 (Nat.le_refl _))]; exact k0
                     have n2 : w6.frozen? ⟨w.heap.size, 0, none⟩ = false := by rw [hb6.frozen (Nat.lt_of_lt_of_le (Array.getElem?_eq_some_iff.1 HE0.out).1 (Nat.le_refl _))]; exact f0
                     have n1 : w6.cell? ⟨w.heap.size + 1, 0, none⟩ = some (.int .i64 0) := by rw [hb6.cell (Array.getElem?_eq_some_iff.1 HE1.out).1, row_cell HE1.out]; rfl
                     have n3 : w6.frozen? ⟨w.heap.size + 1, 0, none⟩ = false := by rw [hb6.frozen (Array.getElem?_eq_some_iff.1 HE1.out).1]; exact row_frozen HE1.out _
                     clear hb6))
                have g0 : w6.heap[w.heap.size]? = some (.cells #[.slice al nl cl] 25 (0, 0)) := by rw [HB6.out.block _ (Array.getElem?_eq_some_iff.1 HE0.out).1]; exact HE0.out
                have g1 : w6.heap[w.heap.size + 1]? = some (.cells #[.int .i64 0] 24 (0, 0)) := by rw [HB6.out.block _ (Array.getElem?_eq_some_iff.1 HE1.out).1]; exact HE1.out
                have K0 := keep_set (B := w.heap.size) (i := 0) g0 (Nat.le_refl _) (.slice al nl cl)
                have g0' := heap_set_same (i := 0) (.slice al nl cl) g0
                have g1' := K0.typ _ _ _ _ (by decide) g1
                have K1 := keep_set (B := w.heap.size) (i := 0) g1' (Nat.le_succ _) (.int .i64 0)
                refine dec_back (x := .slice al nl cl) (y := .int .i64 0) rfl rfl (K1.typ _ _ _ _ (by decide) g0') (heap_set_same _ g1') ⟨.slice al nl cl, F, ?_, ?_, ?_, ?_⟩
                · rw [if_pos HZ.out, HDZ.out]; rfl
                · exact ((HF.out.here HB6.out).keep K0 (by decide) (by decide)).keep K1 (by decide) (by decide)
                · rw [if_pos HZ.out, HDZ.out]; rfl
                · exact ((HBW.out.trans (HB6.out.mono hwsz)).trans K0.low).trans K1.low
              · have HDZ : Hid (decE z b = none) := by rw [Hid, HDR.out]; simp [decR, hck]
                have hckz : ((checkE z (F.map It.e) : Int) == 0) = false := by rw [beq_eq_false_iff_ne]; omega
                have hckd : decide (checkE z (F.map It.e) = 0) = false := decide_eq_false hck
                go_wp2_with (first
                  | (go_at_call 42; refine (must_true _).mono ?_; rintro e w4 ⟨rfl, hw4⟩; have hw5 := hw4.symm; subst hw5)
                  | (go_at_call 30; refine HCK.mono ?_; rintro e w6 ⟨rfl, hb6⟩
                     have HB6 : Hid (Below wr.heap.size wr w6) := hb6
                     clear hb6)
                  | (go_at_call 42; refine (must_false _).mono ?_; rintro e w4 ⟨rfl, hw4⟩; have hw5 := hw4.symm; subst hw5))
                exact HUP.out _ _ (HBW.out.trans (HB6.out.mono hwsz)) (by rw [HB6.out.block _ (Array.getElem?_eq_some_iff.1 HE0.out).1]; exact HE0.out) (by rw [HB6.out.block _ (Array.getElem?_eq_some_iff.1 HE1.out).1]; exact HE1.out) HDZ.out _ rfl rfl
            · have HDZ : Hid (decE z b = none) := by
                rw [Hid, HDR.out]
                cases rest with
                | nil => exact absurd rfl hr0
                | cons x t => rfl
              have hrz : ((rest.length : Int) == 0) = false := by
                rw [beq_eq_false_iff_ne]
                intro e
                exact hr0 (List.eq_nil_of_length_eq_zero (by omega))
              clear hr0
              go_wp2_with (go_at_call 42; refine (must_false _).mono ?_; rintro e w4 ⟨rfl, hw4⟩; have hw5 := hw4.symm; subst hw5)
              exact HUP.out _ _ HBW.out HE0.out HE1.out HDZ.out _ rfl rfl
    · have hbd : decide ((b.length : Int) ≤ z - 32) = false := decide_eq_false (by omega)
      have HNO : Hid (decE z b = none) := by unfold Hid decE; rw [if_pos (by omega)]
      have hblz : ¬ (b.length : Int) ≤ z - 32 := by omega
      go_wp2_with (first
        | (go_at_call 40; refine (HRO'.out _).mono ?_; rintro e w2 ⟨rfl, q2, rfl⟩)
        | (go_at_call 42; refine (must_false _).mono ?_; rintro e w4 ⟨rfl, hw4⟩; have hw5 := hw4.symm; subst hw5))
      exact HUP.out _ _ (below_draws HB0.out _) HR0.out HR1.out HNO.out _ rfl rfl
  · have HRO' : Hid (∀ w, Calls Try.prog 40 #[.int .i64 z] w fun r w' => r = .returned (.int .i64 0) ∧ ∃ q, w' = w.drewN q) := by
      intro w; have := HRO.out w; rw [if_neg hz] at this; exact this
    have HZ : Hid (¬ Sized z) := hz
    clear hz HRO
    go_enter_defers Try.func18, Try.ntmps18
    go_wp2_with fail
    rw [← hW0]
    clear hW0
    refine (HRO'.out _).mono ?_
    rintro e w1 ⟨rfl, q1, rfl⟩
    go_wp2_with fail
    refine ⟨_, dec_res _ w.heap.size (.slice none 0 0) (.int .i64 1) _ rfl rfl ?_ ?_, ⟨.slice none 0 0, [], by rw [if_neg HZ.out], NewList.nil _ _, by rw [if_neg HZ.out]; rfl, ((below_draws HB0.out _).setCell (Nat.le_refl _) _).setCell (Nat.le_succ _) _⟩⟩
    · have d2 : ((W0.drewN q1).setCell ⟨w.heap.size, 0, none⟩ (.slice none 0 0)).heap[w.heap.size]? = some (.cells #[.slice none 0 0] 25 (0, 0)) := heap_set_same _ HR0.out
      rw [row_cell (cur := #[.slice none 0 0]) (t := 25) (by rw [heap_set_other _ (by omega)]; exact d2)]; rfl
    · have d1 : ((W0.drewN q1).setCell ⟨w.heap.size, 0, none⟩ (.slice none 0 0)).heap[w.heap.size + 1]? = some (.cells #[.int .i64 0] 24 (0, 0)) := by rw [heap_set_other _ (by omega)]; exact HR1.out
      rw [row_cell (heap_set_same _ d1)]; rfl
end Go.Proofs.Ytgifnaahahfhbaa
