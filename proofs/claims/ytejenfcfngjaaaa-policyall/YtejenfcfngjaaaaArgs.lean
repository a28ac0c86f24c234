/- The arguments: numbers, lists of numbers, policies, asks, as a walk reads them. -/
import Derived.Test.YtejenfcfngjaaaaRows
import Derived.Test.YtejenfcfngjaaaaChooser
import Derived.Deep.Slices
import Derived.WalkKit
import Derived.ProofKit
import Derived.OpenShut
import Derived.SizedLaws
import Derived.Lib.SmallJoins
namespace Go.Proofs.Ytejenfcfngjaaaa
open Go.ChangeShapes Go.WideShapes Go.ChangeAt Go.RowKit Go.Deep Go.Joins

theorem own_knob : ownKnob Try.prog.godebug = none := by kernel_rfl
theorem laid_out : laidOutB Try.prog = true := by kernel_rfl
theorem cellsIn : Try.prog.cellsOf 3 = 1 := by kernel_rfl
theorem bytesIn : Try.prog.bytesOf 3 = 8 := by kernel_rfl
theorem cellsIs : Try.prog.cellsOf 26 = 1 := by kernel_rfl
theorem cellsKi : Try.prog.cellsOf 25 = 1 := by kernel_rfl
theorem addr_plain {w : World} {a : Addr} {v : Value} (h : w.cell? a = some v) : ∃ g off, a = ⟨g, off, none⟩ ∧ g < w.heap.size := by
  obtain ⟨g, off, spot⟩ := a
  unfold World.cell? at h
  cases e : w.heap[g]? with
  | none => simp [e] at h
  | some o =>
    cases spot with
    | none => exact ⟨g, off, rfl, (Array.getElem?_eq_some_iff.1 e).1⟩
    | some x => cases o <;> simp [e] at h
theorem i64_of {z : Int} (h : (Lit.int .i64 z).wf = true) : -9223372036854775808 ≤ z ∧ z ≤ 9223372036854775807 := by
  simpa [Lit.wf, IntKind.min, IntKind.max, IntKind.bits, IntKind.signed] using h
/-- Numbers that came in. -/
structure IntsIn (w : World) (v : Value) (L : List Int) : Prop where
  row : IntsAt w v L
  short : L.length * 8 ≤ 140737488351232
  wf : ∀ p ∈ L, -9223372036854775808 ≤ p ∧ p ≤ 9223372036854775807
theorem IntsIn.here {w w' : World} {v : Value} {L : List Int} (h : IntsIn w v L) (hb : Below w.heap.size w w') : IntsIn w' v L := ⟨h.row.here hb, h.short, h.wf⟩
/-- A number and numbers: a policy, an ask. -/
structure Kv where
  n : Int
  v : Value
  P : List Int
structure KvIn (w : World) (g off : Nat) (o : Kv) : Prop where
  c0 : w.cell? ⟨g, off, none⟩ = some (.int .i64 o.n)
  c1 : w.cell? ⟨g, off + 1, none⟩ = some o.v
  wn : -9223372036854775808 ≤ o.n ∧ o.n ≤ 9223372036854775807
  row : IntsIn w o.v o.P
structure KvsIn (w : World) (v : Value) (L : List Kv) : Prop where
  is : ∃ a c, v = .slice a L.length c ∧ ∀ (j : Nat) o, L[j]? = some o → ∃ g off, a = some ⟨g, off, none⟩ ∧ g < w.heap.size ∧ KvIn w g (off + j * 2) o
  short : L.length ≤ 4398046511104
theorem KvIn.here {w w' : World} {g off : Nat} {o : Kv} (h : KvIn w g off o) (hg : g < w.heap.size) (hb : Below w.heap.size w w') : KvIn w' g off o :=
  ⟨(hb.cell (p := ⟨g, off, none⟩) hg).trans h.c0, (hb.cell (p := ⟨g, off + 1, none⟩) hg).trans h.c1, h.wn, h.row.here hb⟩
theorem KvsIn.here {w w' : World} {v : Value} {L : List Kv} (h : KvsIn w v L) (hb : Below w.heap.size w w') : KvsIn w' v L := by
  obtain ⟨⟨a, c, e, h1⟩, h2⟩ := h
  refine ⟨⟨a, c, e, fun j o hj => ?_⟩, h2⟩
  obtain ⟨g, off, e1, e2, e3⟩ := h1 j o hj
  exact ⟨g, off, e1, Nat.lt_of_lt_of_le e2 hb.size, e3.here e2 hb⟩
section
variable {H : Type} {enc : TypeId × Value → H} {w : World} {fuel : Nat}
theorem int_in {cs : List Value} {x : DataW H × List MemPlace} (hf : DataW.trod enc Try.prog w 0 (fun _ => true) true fuel 3 cs = some x) : ∃ z, cs = [.int .i64 z] ∧ (Lit.int .i64 z).wf = true := by
  obtain ⟨z, e, _, hw⟩ := DataW.trod_int Try.underlying3 hf
  exact ⟨z, e, hw⟩
theorem kind_in {cs : List Value} {x : DataW H × List MemPlace} (hf : DataW.trod enc Try.prog w 0 (fun _ => true) true fuel 25 cs = some x) : ∃ z, cs = [.int .i64 z] ∧ (Lit.int .i64 z).wf = true := by
  obtain ⟨z, e, _, hw⟩ := DataW.trod_int Try.underlying25 hf
  exact ⟨z, e, hw⟩
theorem ints_in {v : Value} {x : DataW H × List MemPlace} (hf : DataW.trod enc Try.prog w 0 (fun _ => true) true fuel 26 [v] = some x) (hwt : ∀ n ∈ x.1.weights Try.prog 26, n ≤ reachBytes) :
    ∃ L, IntsIn w v L := by
  rcases open_ints Try.underlying26 Try.underlying3 cellsIn hf with ⟨hcs, hx⟩ | ⟨a, len', cap', zs, hcs, _, hl, hm, hz, hx, hcell, hwz⟩
  · simp at hcs
    exact ⟨[], ⟨⟨none, 0, hcs, Nat.le_refl _, fun _ => rfl, fun j c hj => by simp at hj⟩, rfl⟩, by decide, by simp⟩
  · simp at hcs
    simp only [if_true] at hz
    have hlen : (zs.take len').length = len' := by simp; omega
    have hshort : len' * 8 ≤ 140737488351232 := by
      subst hx
      have := hwt _ (by simp only [DataW.weights, Try.underlying26]; exact List.mem_cons_self ..)
      rw [bytesIn] at this
      have hr : reachBytes = 140737488351232 := rfl
      simp [Go.ChangeShapes.lits] at this
      omega
    refine ⟨zs.take len', ⟨⟨some a, cap', by rw [hlen]; exact hcs, by rw [hlen]; exact hl, (fun h => by cases h), fun j u hj => ?_⟩, by simp⟩, by rw [hlen]; exact hshort, fun p hp => ?_⟩
    · rw [List.getElem?_map] at hj
      have hjl : j < len' := by
        rcases Nat.lt_or_ge j len' with h | h
        · exact h
        · rw [List.getElem?_eq_none (by rw [hlen]; exact h)] at hj
          simp at hj
      have h0 := hcell 0 (by omega)
      have ha : a.add 0 = a := by simp [Addr.add]
      rw [ha] at h0
      obtain ⟨g, off, rfl, hg⟩ := addr_plain h0
      have hcj := hcell j (by omega)
      rw [add_at] at hcj
      refine ⟨g, off, rfl, hg, ?_⟩
      rw [hcj]
      have hzj : zs[j]? = some zs[j] := List.getElem?_eq_getElem (by omega)
      rw [List.getElem?_take, if_pos hjl, hzj] at hj
      simp [encI] at hj
      subst hj
      simp [List.getD, hzj]
    · exact i64_of (hwz p (List.mem_of_mem_take hp))
theorem two {l : List Value} (h : l.length = 2) : ∃ c0 c1, l = [c0, c1] := by
  rcases l with _ | ⟨c0, _ | ⟨c1, _ | ⟨c2, r⟩⟩⟩
  all_goals first | exact ⟨_, _, rfl⟩ | (simp at h; done)
theorem weightsAll_in {t : TypeId} {d : DataW H} {n : Nat} (hn : n ∈ d.weights Try.prog t) : ∀ {l : List (DataW H)}, d ∈ l → n ∈ DataW.weightsAll Try.prog t l
  | [], h => by cases h
  | y :: r, h => by
    rw [DataW.weightsAll, List.mem_append]
    rcases List.mem_cons.1 h with rfl | h
    · exact .inl hn
    · exact .inr (weightsAll_in hn h)
theorem cellsPolicy : Try.prog.cellsOf 28 = 2 := by kernel_rfl
theorem bytesPolicy : Try.prog.bytesOf 28 = 32 := by kernel_rfl
set_option maxRecDepth 100000 in
theorem policy_in {cs : List Value} {x : DataW H × List MemPlace} (hf : DataW.trod enc Try.prog w 0 (fun _ => true) true fuel 28 cs = some x) (hwt : ∀ n ∈ x.1.weights Try.prog 28, n ≤ reachBytes) :
    ∃ o : Kv, cs = [.int .i64 o.n, o.v] ∧ (-9223372036854775808 ≤ o.n ∧ o.n ≤ 9223372036854775807) ∧ IntsIn w o.v o.P := by
  obtain ⟨xs, n', _, hD, hlen4, hxl, hfld⟩ := DataW.trod_struct Try.underlying28 hf
  have hD1 : x.1 = .agg (xs.map (·.1)) := congrArg Prod.fst hD
  rw [cellsPolicy] at hlen4
  obtain ⟨c0, c1, rfl⟩ := two hlen4
  have hx2 : xs.length = 2 := hxl
  have t0 : DataW.trod enc Try.prog w 0 (fun _ => true) true n' 25 [c0] = xs[0]? := hfld 0 _ rfl
  have t1 : DataW.trod enc Try.prog w 0 (fun _ => true) true n' 26 [c1] = xs[1]? := hfld 1 _ rfl
  rw [List.getElem?_eq_getElem (by omega)] at t0 t1
  obtain ⟨z0, e0, w0⟩ := kind_in t0
  simp only [List.cons.injEq, and_true] at e0
  subst e0
  have hw3 : ∀ n ∈ (xs[1].1).weights Try.prog 26, n ≤ reachBytes := fun n hn => hwt n (by
    rw [hD1]
    simp only [DataW.weights, Try.underlying28]
    exact DataW.weights_mem_each (j := 1) (t := 26) rfl (by simp [hx2]) n hn)
  obtain ⟨S, hS⟩ := ints_in t1 hw3
  exact ⟨⟨z0, c1, S⟩, rfl, i64_of w0, hS⟩
set_option maxRecDepth 100000 in
theorem policies_in {v : Value} {x : DataW H × List MemPlace} (hf : DataW.trod enc Try.prog w 0 (fun _ => true) true fuel 23 [v] = some x) (hwt : ∀ n ∈ x.1.weights Try.prog 23, n ≤ reachBytes) :
    ∃ L, KvsIn w v L := by
  rcases open_slice Try.underlying23 hf with ⟨hcs, hx⟩ | ⟨a, len, cap, m, n, D, Pl, hcs, _, hl, hm, hmm, hx, hel⟩
  · simp at hcs
    exact ⟨[], ⟨none, 0, hcs, fun j c hj => by simp at hj⟩, by decide⟩
  · simp at hcs
    simp only [if_true] at hmm
    subst hmm hx hcs
    have hshort : len ≤ 4398046511104 := by
      have := hwt _ (by simp only [DataW.weights, Try.underlying23]; exact List.mem_cons_self ..)
      have hr : reachBytes = 140737488351232 := rfl
      rw [bytesPolicy] at this
      simp at this
      omega
    have hin : ∀ i, i < len → ∀ n ∈ (D i).weights Try.prog 28, n ≤ reachBytes := fun i hi n hn => hwt n (by
      simp only [DataW.weights, Try.underlying23]
      exact List.mem_cons_of_mem _ (List.mem_append.2 (.inl (weightsAll_in hn (List.mem_map.2 ⟨i, List.mem_range.2 hi, rfl⟩)))))
    simp only [cellsPolicy] at hel
    by_cases hlen0 : len = 0
    · subst hlen0
      exact ⟨[], ⟨_, _, rfl, fun j c hj => by simp at hj⟩, by decide⟩
    obtain ⟨g, off, rfl, hg⟩ : ∃ g off, a = ⟨g, off, none⟩ ∧ g < w.heap.size := by
      obtain ⟨cs0, hc0, _⟩ := hel 0 (by omega)
      obtain ⟨_, hl0, hcc⟩ := World.cells?_some hc0
      have h0 := hcc 0 (by decide)
      have ha : (a.add (0 * 2)).add 0 = a := by simp [Addr.add]
      rw [ha] at h0
      obtain ⟨c, hc⟩ : ∃ c, cs0[0]? = some c := ⟨cs0[0], List.getElem?_eq_getElem (by omega)⟩
      rw [hc] at h0
      exact addr_plain h0
    have hone : ∀ i, i < len → ∃ o : Kv, KvIn w g (off + i * 2) o := by
      intro i hi
      obtain ⟨cs', hc', ht'⟩ := hel i (by omega)
      obtain ⟨o, e, h1, h2⟩ := policy_in ht' (hin i hi)
      have hcs := (World.cells?_some hc').2.2
      have f0 := hcs 0 (by decide)
      have f1 := hcs 1 (by decide)
      rw [add_at, add_at, e] at f0 f1
      exact ⟨o, f0, f1, h1, h2⟩
    have hch : ∀ i : Fin len, ∃ o : Kv, KvIn w g (off + i * 2) o := fun i => hone i i.2
    refine ⟨List.ofFn (fun i : Fin len => (hch i).choose), ⟨some ⟨g, off, none⟩, _, by rw [List.length_ofFn], fun i q hq => ?_⟩, by simpa using hshort⟩
    obtain ⟨h1, h2⟩ := List.getElem?_eq_some_iff.1 hq
    simp at h1 h2
    rw [← h2]
    exact ⟨g, off, rfl, hg, (hch ⟨i, h1⟩).choose_spec⟩
theorem cellsAsk : Try.prog.cellsOf 30 = 2 := by kernel_rfl
theorem bytesAsk : Try.prog.bytesOf 30 = 32 := by kernel_rfl
set_option maxRecDepth 100000 in
theorem ask_in {cs : List Value} {x : DataW H × List MemPlace} (hf : DataW.trod enc Try.prog w 0 (fun _ => true) true fuel 30 cs = some x) (hwt : ∀ n ∈ x.1.weights Try.prog 30, n ≤ reachBytes) :
    ∃ o : Kv, cs = [.int .i64 o.n, o.v] ∧ (-9223372036854775808 ≤ o.n ∧ o.n ≤ 9223372036854775807) ∧ IntsIn w o.v o.P := by
  obtain ⟨xs, n', _, hD, hlen4, hxl, hfld⟩ := DataW.trod_struct Try.underlying30 hf
  have hD1 : x.1 = .agg (xs.map (·.1)) := congrArg Prod.fst hD
  rw [cellsAsk] at hlen4
  obtain ⟨c0, c1, rfl⟩ := two hlen4
  have hx2 : xs.length = 2 := hxl
  have t0 : DataW.trod enc Try.prog w 0 (fun _ => true) true n' 3 [c0] = xs[0]? := hfld 0 _ rfl
  have t1 : DataW.trod enc Try.prog w 0 (fun _ => true) true n' 26 [c1] = xs[1]? := hfld 1 _ rfl
  rw [List.getElem?_eq_getElem (by omega)] at t0 t1
  obtain ⟨z0, e0, w0⟩ := int_in t0
  simp only [List.cons.injEq, and_true] at e0
  subst e0
  have hw3 : ∀ n ∈ (xs[1].1).weights Try.prog 26, n ≤ reachBytes := fun n hn => hwt n (by
    rw [hD1]
    simp only [DataW.weights, Try.underlying30]
    exact DataW.weights_mem_each (j := 1) (t := 26) rfl (by simp [hx2]) n hn)
  obtain ⟨S, hS⟩ := ints_in t1 hw3
  exact ⟨⟨z0, c1, S⟩, rfl, i64_of w0, hS⟩
set_option maxRecDepth 100000 in
theorem asks_in {v : Value} {x : DataW H × List MemPlace} (hf : DataW.trod enc Try.prog w 0 (fun _ => true) true fuel 24 [v] = some x) (hwt : ∀ n ∈ x.1.weights Try.prog 24, n ≤ reachBytes) :
    ∃ L, KvsIn w v L := by
  rcases open_slice Try.underlying24 hf with ⟨hcs, hx⟩ | ⟨a, len, cap, m, n, D, Pl, hcs, _, hl, hm, hmm, hx, hel⟩
  · simp at hcs
    exact ⟨[], ⟨none, 0, hcs, fun j c hj => by simp at hj⟩, by decide⟩
  · simp at hcs
    simp only [if_true] at hmm
    subst hmm hx hcs
    have hshort : len ≤ 4398046511104 := by
      have := hwt _ (by simp only [DataW.weights, Try.underlying24]; exact List.mem_cons_self ..)
      have hr : reachBytes = 140737488351232 := rfl
      rw [bytesAsk] at this
      simp at this
      omega
    have hin : ∀ i, i < len → ∀ n ∈ (D i).weights Try.prog 30, n ≤ reachBytes := fun i hi n hn => hwt n (by
      simp only [DataW.weights, Try.underlying24]
      exact List.mem_cons_of_mem _ (List.mem_append.2 (.inl (weightsAll_in hn (List.mem_map.2 ⟨i, List.mem_range.2 hi, rfl⟩)))))
    simp only [cellsAsk] at hel
    by_cases hlen0 : len = 0
    · subst hlen0
      exact ⟨[], ⟨_, _, rfl, fun j c hj => by simp at hj⟩, by decide⟩
    obtain ⟨g, off, rfl, hg⟩ : ∃ g off, a = ⟨g, off, none⟩ ∧ g < w.heap.size := by
      obtain ⟨cs0, hc0, _⟩ := hel 0 (by omega)
      obtain ⟨_, hl0, hcc⟩ := World.cells?_some hc0
      have h0 := hcc 0 (by decide)
      have ha : (a.add (0 * 2)).add 0 = a := by simp [Addr.add]
      rw [ha] at h0
      obtain ⟨c, hc⟩ : ∃ c, cs0[0]? = some c := ⟨cs0[0], List.getElem?_eq_getElem (by omega)⟩
      rw [hc] at h0
      exact addr_plain h0
    have hone : ∀ i, i < len → ∃ o : Kv, KvIn w g (off + i * 2) o := by
      intro i hi
      obtain ⟨cs', hc', ht'⟩ := hel i (by omega)
      obtain ⟨o, e, h1, h2⟩ := ask_in ht' (hin i hi)
      have hcs := (World.cells?_some hc').2.2
      have f0 := hcs 0 (by decide)
      have f1 := hcs 1 (by decide)
      rw [add_at, add_at, e] at f0 f1
      exact ⟨o, f0, f1, h1, h2⟩
    have hch : ∀ i : Fin len, ∃ o : Kv, KvIn w g (off + i * 2) o := fun i => hone i i.2
    refine ⟨List.ofFn (fun i : Fin len => (hch i).choose), ⟨some ⟨g, off, none⟩, _, by rw [List.length_ofFn], fun i q hq => ?_⟩, by simpa using hshort⟩
    obtain ⟨h1, h2⟩ := List.getElem?_eq_some_iff.1 hq
    simp at h1 h2
    rw [← h2]
    exact ⟨g, off, rfl, hg, (hch ⟨i, h1⟩).choose_spec⟩
/-- A policy that came in. -/
theorem pol_in {r : Reach} {b0 : Nat} {v : Value} {d : DataW H} {p : List MemPlace} (hv : Value.okWide Try.prog w r b0 28 v) (h : DataW.Trod enc Try.prog w 0 (fun _ => true) true 28 v d p) (hwt : ∀ n ∈ d.weights Try.prog 28, n ≤ reachBytes) :
    ∃ o : Kv, v = .agg #[.int .i64 o.n, o.v] ∧ (-9223372036854775808 ≤ o.n ∧ o.n ≤ 9223372036854775807) ∧ IntsIn w o.v o.P := by
  obtain ⟨cs, rfl, hsz⟩ := okWide_struct Try.underlying28 hv
  obtain ⟨fuel, hf⟩ := h
  obtain ⟨o, e, h1, h2⟩ := policy_in (x := (d, p)) hf hwt
  have : cs = #[.int .i64 o.n, o.v] := by
    have h1 : cs.toList = [.int .i64 o.n, o.v] := by simpa [Value.cells] using e
    cases cs
    simp_all
  subst this
  exact ⟨o, rfl, h1, h2⟩
end
end Go.Proofs.Ytejenfcfngjaaaa
