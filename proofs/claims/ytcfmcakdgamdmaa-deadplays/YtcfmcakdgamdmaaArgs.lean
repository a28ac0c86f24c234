/- The arguments: numbers, lists of numbers, lists of lives, as a walk reads them. -/
import Derived.Test.YtcfmcakdgamdmaaRows
import Derived.Test.YtcfmcakdgamdmaaMem
import Derived.Deep.Slices
import Derived.WalkKit
import Derived.ProofKit
import Derived.OpenShut
import Derived.SizedLaws
import Derived.Lib.SmallJoins
namespace Go.Proofs.Ytcfmcakdgamdmaa
open Go.ChangeShapes Go.WideShapes Go.ChangeAt Go.RowKit Go.Deep Go.Joins

theorem own_knob : ownKnob Try.prog.godebug = none := by kernel_rfl
theorem laid_out : laidOutB Try.prog = true := by kernel_rfl
theorem cellsIn : Try.prog.cellsOf 3 = 1 := by kernel_rfl
theorem cellsU6 : Try.prog.cellsOf 32 = 1 := by kernel_rfl
theorem bytesU6 : Try.prog.bytesOf 32 = 8 := by kernel_rfl
theorem cellsLf : Try.prog.cellsOf 34 = 3 := by kernel_rfl
theorem bytesLf : Try.prog.bytesOf 34 = 24 := by kernel_rfl
theorem addr_plain {w : World} {a : Addr} {v : Value} (h : w.cell? a = some v) : ∃ g off, a = ⟨g, off, none⟩ ∧ g < w.heap.size := by
  obtain ⟨g, off, spot⟩ := a
  unfold World.cell? at h
  cases e : w.heap[g]? with
  | none => simp [e] at h
  | some o =>
    cases spot with
    | none => exact ⟨g, off, rfl, (Array.getElem?_eq_some_iff.1 e).1⟩
    | some x => cases o <;> simp [e] at h
theorem reach_is : reachBytes ≤ 140737488355328 := by decide
theorem i64_in {z : Int} (h : (Lit.int .i64 z).wf = true) : -9223372036854775808 ≤ z ∧ z ≤ 9223372036854775807 := by
  simpa [Lit.wf, IntKind.min, IntKind.max, IntKind.bits, IntKind.signed] using h
theorem pick_list {α : Type} (P : Nat → α → Prop) (n : Nat) (h : ∀ i, i < n → ∃ e, P i e) : ∃ L : List α, L.length = n ∧ ∀ i e, L[i]? = some e → P i e := by
  induction n with
  | zero => exact ⟨[], rfl, fun i e he => by simp at he⟩
  | succ n ih =>
    obtain ⟨L, hl, hL⟩ := ih fun i hi => h i (by omega)
    obtain ⟨e, he⟩ := h n (by omega)
    refine ⟨L ++ [e], by simp [hl], fun i x hx => ?_⟩
    by_cases hi : i < L.length
    · rw [List.getElem?_append_left hi] at hx; exact hL i x hx
    · rw [List.getElem?_append_right (by omega)] at hx
      have hz := (List.getElem?_eq_some_iff.1 hx).1
      simp at hz
      have e1 : i = n := by omega
      subst e1
      rw [hl] at hx
      simp at hx
      rw [← hx]; exact he
/-- Lives that came in. -/
structure LivesIn (w : World) (v : Value) (L : List Lf) : Prop where
  row : LivesAt w v L
  short : L.length * 24 ≤ 140737488355328
/-- Generations that came in. -/
structure U64In (w : World) (v : Value) (S : List Int) : Prop where
  row : U64At w v S
  short : S.length * 8 ≤ 140737488355328
section
variable {H : Type} {enc : TypeId × Value → H} {w : World} {fuel : Nat}
theorem int_in {cs : List Value} {x : DataW H × List MemPlace} (hf : DataW.trod enc Try.prog w 0 (fun _ => true) true fuel 3 cs = some x) : ∃ z, cs = [.int .i64 z] ∧ (Lit.int .i64 z).wf = true := by
  obtain ⟨z, e, _, hw⟩ := DataW.trod_int Try.underlying3 hf
  exact ⟨z, e, hw⟩
theorem u64_in {cs : List Value} {x : DataW H × List MemPlace} (hf : DataW.trod enc Try.prog w 0 (fun _ => true) true fuel 32 cs = some x) : ∃ z, cs = [.int .u64 z] ∧ (Lit.int .u64 z).wf = true := by
  obtain ⟨z, e, _, hw⟩ := DataW.trod_int Try.underlying32 hf
  exact ⟨z, e, hw⟩
theorem u64s_in {v : Value} {x : DataW H × List MemPlace} (hf : DataW.trod enc Try.prog w 0 (fun _ => true) true fuel 35 [v] = some x) (hwt : ∀ n ∈ x.1.weights Try.prog 35, n ≤ reachBytes) :
    ∃ L, U64In w v L := by
  rcases open_ints Try.underlying35 Try.underlying32 cellsU6 hf with ⟨hcs, hx⟩ | ⟨a, len', cap', zs, hcs, _, hl, hm, hz, hx, hcell, hwz⟩
  · simp at hcs
    exact ⟨[], ⟨⟨none, 0, hcs, Nat.le_refl _, fun _ => rfl, fun j c hj => by simp at hj⟩, rfl⟩, by decide⟩
  · simp at hcs
    simp only [if_true] at hz
    have hlen : (zs.take len').length = len' := by simp; omega
    have hshort : len' * 8 ≤ 140737488355328 := by
      subst hx
      have := hwt _ (by simp only [DataW.weights, Try.underlying35]; exact List.mem_cons_self ..)
      rw [bytesU6] at this
      have hr := reach_is
      simp [Go.ChangeShapes.lits] at this
      omega
    refine ⟨zs.take len', ⟨⟨some a, cap', by rw [hlen]; exact hcs, by rw [hlen]; exact hl, (fun h => by cases h), fun j u hj => ?_⟩, by simp⟩, by rw [hlen]; exact hshort⟩
    rw [List.getElem?_map] at hj
    have hjl : j < len' := by
      rcases Nat.lt_or_ge j len' with h | h
      · exact h
      · rw [List.getElem?_eq_none (by rw [hlen]; exact h)] at hj
        simp at hj
    have h0 := hcell 0 (by omega)
    have ha : a.add 0 = a := by simp [Addr.add]
    rw [ha] at h0
    obtain ⟨g, off, rfl, hg⟩ := addr_plain h0
    have hcj := hcell j (by omega)
    rw [add_at] at hcj
    refine ⟨g, off, rfl, hg, ?_⟩
    rw [hcj]
    have hzj : zs[j]? = some zs[j] := List.getElem?_eq_getElem (by omega)
    rw [List.getElem?_take, if_pos hjl, hzj] at hj
    simp [encU] at hj
    subst hj
    simp [List.getD, hzj]
set_option maxRecDepth 100000 in
theorem three_in {cs : List Value} {x : DataW H × List MemPlace} (hf : DataW.trod enc Try.prog w 0 (fun _ => true) true fuel 34 cs = some x) : ∃ y : Lf, cs = encL y := by
  obtain ⟨y0, y1, y2, n, hx, hlen3, h0, h1, h2⟩ := trod_struct3 Try.underlying34 hf
  rw [cellsLf] at hlen3
  obtain ⟨c0, c1, c2, rfl⟩ : ∃ c0 c1 c2, cs = [c0, c1, c2] := by
    rcases cs with _ | ⟨c0, _ | ⟨c1, _ | ⟨c2, _ | ⟨c3, r⟩⟩⟩⟩
    all_goals first | exact ⟨_, _, _, rfl⟩ | (simp at hlen3; done) | (exfalso; simp at hlen3; omega)
  simp only [cellsIn, cellsU6, List.drop_succ_cons, List.drop_zero, List.take_succ_cons, List.take_zero] at h0 h1 h2
  obtain ⟨z0, e0, _, _⟩ := DataW.trod_int Try.underlying3 h0
  obtain ⟨z1, e1, _, _⟩ := DataW.trod_int Try.underlying32 h1
  obtain ⟨z2, e2, _, _⟩ := DataW.trod_int Try.underlying32 h2
  simp only [List.cons.injEq, and_true] at e0 e1 e2
  subst e0 e1 e2
  exact ⟨⟨z0, z1, z2⟩, rfl⟩
set_option maxRecDepth 100000 in
theorem lives_in {v : Value} {x : DataW H × List MemPlace} (hf : DataW.trod enc Try.prog w 0 (fun _ => true) true fuel 39 [v] = some x) (hwt : ∀ n ∈ x.1.weights Try.prog 39, n ≤ reachBytes) :
    ∃ L, LivesIn w v L := by
  rcases open_slice Try.underlying39 hf with ⟨hcs, hx⟩ | ⟨a, len', cap', m, n, D, Pl, hcs, _, hl, hm, hmm, hx, hel⟩
  · simp at hcs
    exact ⟨[], ⟨⟨none, 0, hcs, Nat.le_refl _, fun _ => rfl, fun j c hj => by simp [flatL] at hj⟩, rfl⟩, by decide⟩
  · simp at hcs
    simp only [if_true] at hmm
    subst hmm
    simp only [cellsLf] at hel
    have hone : ∀ i, i < len' → ∃ e : Lf, ∀ j u, (encL e)[j]? = some u → w.cell? ((a.add (i * 3)).add j) = some u := by
      intro i hi
      obtain ⟨cs', hc', ht'⟩ := hel i (by omega)
      obtain ⟨e, he⟩ := three_in ht'
      have hcs := (World.cells?_some hc').2.2
      rw [he] at hcs
      refine ⟨e, fun j u hj => ?_⟩
      have hj3 : j < 3 := (List.getElem?_eq_some_iff.1 hj).1
      have := hcs j hj3
      rw [this]
      simp [hj]
    obtain ⟨L, hL, hLP⟩ := pick_list _ len' hone
    subst hL
    refine ⟨L, ⟨⟨some a, m, hcs, hl, (fun h => by cases h), fun j u hj => ?_⟩, flatL_length L⟩, ?_⟩
    · have hjl := (List.getElem?_eq_some_iff.1 hj).1
      rw [flatL_length] at hjl
      obtain ⟨i, k, hk, rfl⟩ : ∃ i k, k < 3 ∧ j = i * 3 + k := ⟨j / 3, j % 3, Nat.mod_lt _ (by decide), by omega⟩
      obtain ⟨e, hei⟩ : ∃ e, L[i]? = some e := ⟨_, List.getElem?_eq_getElem (by omega)⟩
      have f0 := hLP i e hei
      obtain ⟨g0, g1, g2⟩ := flatL_at hei
      obtain ⟨g, off, rfl, hg⟩ : ∃ g off, a = ⟨g, off, none⟩ ∧ g < w.heap.size := by
        obtain ⟨z, hz⟩ : ∃ z, L[0]? = some z := ⟨_, List.getElem?_eq_getElem (by omega)⟩
        have h0 := (hLP 0 z hz) 0 _ rfl
        have ha : (a.add (0 * 3)).add 0 = a := by simp [Addr.add]
        rw [ha] at h0
        exact addr_plain h0
      refine ⟨g, off, rfl, hg, ?_⟩
      have hk' := f0 k u (by
        match k, hk with
        | 0, _ => rw [Nat.add_zero, g0] at hj; exact hj
        | 1, _ => rw [g1] at hj; exact hj
        | 2, _ => rw [g2] at hj; exact hj)
      rw [add_at, add_at, Nat.add_assoc] at hk'
      exact hk'
    · have := hwt _ (by rw [hx]; simp only [DataW.weights, Try.underlying39]; exact List.mem_cons_self ..)
      rw [bytesLf] at this
      have hr := reach_is
      simp at this
      omega
end
end Go.Proofs.Ytcfmcakdgamdmaa
