/- The argument that is a script, as a walk reads it. -/
import Derived.Test.YtcfmcakdgamdmaaArgs
import Derived.Test.YtcfmcakdgamdmaaFrees
namespace Go.Proofs.Ytcfmcakdgamdmaa
open Go.ChangeShapes Go.WideShapes Go.ChangeAt Go.RowKit Go.Deep Go.Joins

theorem cellsUs : Try.prog.cellsOf 35 = 1 := by kernel_rfl
theorem cellsOp : Try.prog.cellsOf 37 = 7 := by kernel_rfl
theorem bytesOp : Try.prog.bytesOf 37 = 72 := by kernel_rfl
/-- One step of a script. -/
structure Ov where
  kind : Int
  on : Int
  x : Lf
  sv : Value
  S : List Int
  snap : Int
structure OvIn (w : World) (g off : Nat) (o : Ov) : Prop where
  c0 : w.cell? ⟨g, off, none⟩ = some (.int .i64 o.kind)
  c1 : w.cell? ⟨g, off + 1, none⟩ = some (.int .i64 o.on)
  c2 : w.cell? ⟨g, off + 2, none⟩ = some (.int .i64 o.x.p)
  c3 : w.cell? ⟨g, off + 3, none⟩ = some (.int .u64 o.x.b)
  c4 : w.cell? ⟨g, off + 4, none⟩ = some (.int .u64 o.x.d)
  c5 : w.cell? ⟨g, off + 5, none⟩ = some o.sv
  c6 : w.cell? ⟨g, off + 6, none⟩ = some (.int .u64 o.snap)
  won : (Lit.int .i64 o.on).wf = true
  sn : SnAt w.heap.size w o.sv o.S
structure OpsIn (w : World) (v : Value) (L : List Ov) : Prop where
  is : ∃ a c, v = .slice a L.length c ∧ ∀ (j : Nat) o, L[j]? = some o → ∃ g off, a = some ⟨g, off, none⟩ ∧ g < w.heap.size ∧ OvIn w g (off + j * 7) o
  short : L.length ≤ 1954687338211
section
variable {H : Type} {enc : TypeId × Value → H} {w : World} {fuel : Nat}
theorem weightsAll_in {t : TypeId} {d : DataW H} {n : Nat} (hn : n ∈ d.weights Try.prog t) : ∀ {l : List (DataW H)}, d ∈ l → n ∈ DataW.weightsAll Try.prog t l
  | [], h => by cases h
  | y :: r, h => by
    rw [DataW.weightsAll, List.mem_append]
    rcases List.mem_cons.1 h with rfl | h
    · exact .inl hn
    · exact .inr (weightsAll_in hn h)
theorem u64s_reach {a : Option Addr} {l c : Nat} {x : DataW H × List MemPlace} (hf : DataW.trod enc Try.prog w 0 (fun _ => true) true fuel 35 [.slice a l c] = some x) (hwt : ∀ n ∈ x.1.weights Try.prog 35, n ≤ reachBytes) : l * 8 ≤ 140737488351232 := by
  rcases open_ints Try.underlying35 Try.underlying32 cellsU6 hf with ⟨hcs, hx⟩ | ⟨a, len', cap', zs, hcs, _, hl, hm, hz, hx, hcell, hwz⟩
  · simp at hcs; omega
  · simp at hcs
    simp only [if_true] at hz
    subst hx
    have := hwt _ (by simp only [DataW.weights, Try.underlying35]; exact List.mem_cons_self ..)
    rw [bytesU6] at this
    have hr : reachBytes = 140737488351232 := rfl
    simp [Go.ChangeShapes.lits] at this
    omega
theorem seven {l : List Value} (h : l.length = 7) : ∃ c0 c1 c2 c3 c4 c5 c6, l = [c0, c1, c2, c3, c4, c5, c6] := by
  rcases l with _ | ⟨c0, _ | ⟨c1, _ | ⟨c2, _ | ⟨c3, _ | ⟨c4, _ | ⟨c5, _ | ⟨c6, _ | ⟨c7, r⟩⟩⟩⟩⟩⟩⟩⟩
  all_goals first | exact ⟨_, _, _, _, _, _, _, rfl⟩ | (simp at h; done) | (exfalso; simp at h; omega)
set_option maxRecDepth 100000 in
theorem ops_in {v : Value} {x : DataW H × List MemPlace} (hf : DataW.trod enc Try.prog w 0 (fun _ => true) true fuel 23 [v] = some x) (hwt : ∀ n ∈ x.1.weights Try.prog 23, n ≤ reachBytes) :
    ∃ L, OpsIn w v L := by
  rcases open_slice Try.underlying23 hf with ⟨hcs, hx⟩ | ⟨a, len, cap, m, n, D, Pl, hcs, _, hl, hm, hmm, hx, hel⟩
  · simp at hcs
    exact ⟨[], ⟨none, 0, hcs, fun j c hj => by simp at hj⟩, by decide⟩
  · simp at hcs
    simp only [if_true] at hmm
    subst hmm hx hcs
    have hshort : len ≤ 1954687338211 := by
      have := hwt _ (by simp only [DataW.weights, Try.underlying23]; exact List.mem_cons_self ..)
      have hr : reachBytes = 140737488351232 := rfl
      rw [bytesOp] at this
      simp at this
      omega
    have hin : ∀ i, i < len → ∀ n ∈ (D i).weights Try.prog 37, n ≤ reachBytes := fun i hi n hn => hwt n (by
      simp only [DataW.weights, Try.underlying23]
      exact List.mem_cons_of_mem _ (List.mem_append.2 (.inl (weightsAll_in hn (List.mem_map.2 ⟨i, List.mem_range.2 hi, rfl⟩)))))
    simp only [cellsOp] at hel
    by_cases hlen0 : len = 0
    · subst hlen0
      exact ⟨[], ⟨_, _, rfl, fun j c hj => by simp at hj⟩, by decide⟩
    obtain ⟨g, off, rfl, hg⟩ : ∃ g off, a = ⟨g, off, none⟩ ∧ g < w.heap.size := by
      obtain ⟨cs0, hc0, _⟩ := hel 0 (by omega)
      obtain ⟨_, hl0, hcc⟩ := World.cells?_some hc0
      have h0 := hcc 0 (by decide)
      have ha : (a.add (0 * 7)).add 0 = a := by simp [Addr.add]
      rw [ha] at h0
      obtain ⟨c, hc⟩ : ∃ c, cs0[0]? = some c := ⟨cs0[0], List.getElem?_eq_getElem (by omega)⟩
      rw [hc] at h0
      exact addr_plain h0
    have hone : ∀ i, i < len → ∃ o : Ov, OvIn w g (off + i * 7) o := by
      intro i hi
      obtain ⟨cs', hc', ht'⟩ := hel i (by omega)
      have hwi := hin i hi
      obtain ⟨xs, n', _, hD, hlen4, hxl, hfld⟩ := DataW.trod_struct Try.underlying37 ht'
      have hD1 : D i = .agg (xs.map (·.1)) := congrArg Prod.fst hD
      rw [cellsOp] at hlen4
      obtain ⟨c0, c1, c2, c3, c4, c5, c6, rfl⟩ := seven hlen4
      have hcs := (World.cells?_some hc').2.2
      have f0 := hcs 0 (by decide)
      have f1 := hcs 1 (by decide)
      have f2 := hcs 2 (by decide)
      have f3 := hcs 3 (by decide)
      have f4 := hcs 4 (by decide)
      have f5 := hcs 5 (by decide)
      have f6 := hcs 6 (by decide)
      rw [add_at, add_at] at f0 f1 f2 f3 f4 f5 f6
      simp only [List.getElem?_cons_zero, List.getElem?_cons_succ] at f0 f1 f2 f3 f4 f5 f6
      have hx5 : xs.length = 5 := hxl
      have t0 : DataW.trod enc Try.prog w 0 (fun _ => true) true n' 3 [c0] = xs[0]? := hfld 0 _ rfl
      have t1 : DataW.trod enc Try.prog w 0 (fun _ => true) true n' 3 [c1] = xs[1]? := hfld 1 _ rfl
      have t2 : DataW.trod enc Try.prog w 0 (fun _ => true) true n' 34 [c2, c3, c4] = xs[2]? := hfld 2 _ rfl
      have t3 : DataW.trod enc Try.prog w 0 (fun _ => true) true n' 35 [c5] = xs[3]? := hfld 3 _ rfl
      have t4 : DataW.trod enc Try.prog w 0 (fun _ => true) true n' 32 [c6] = xs[4]? := hfld 4 _ rfl
      rw [List.getElem?_eq_getElem (by omega)] at t0 t1 t2 t3 t4
      obtain ⟨z0, e0, _⟩ := int_in t0
      obtain ⟨z1, e1, hw1⟩ := int_in t1
      obtain ⟨y, e2⟩ := three_in t2
      obtain ⟨z4, e4, _⟩ := u64_in t4
      simp only [encL, List.cons.injEq, and_true] at e0 e1 e2 e4
      obtain ⟨e2, e3, e3'⟩ := e2
      subst e0 e1 e2 e3 e3' e4
      have hw3 : ∀ n ∈ (xs[3].1).weights Try.prog 35, n ≤ reachBytes := fun n hn => hwi n (by
        rw [hD1]
        simp only [DataW.weights, Try.underlying37]
        exact DataW.weights_mem_each (j := 3) (t := 35) rfl (by simp [hx5]) n hn)
      obtain ⟨S, ⟨⟨aB, cB, e5, q1, q2, q3⟩, _⟩, _⟩ := u64s_in t3 hw3
      subst e5
      exact ⟨⟨z0, z1, y, _, S, z4⟩, f0, f1, f2, f3, f4, f5, f6, hw1, ⟨aB, cB, rfl, q1, q2, q3⟩, u64s_reach t3 hw3⟩
    have hch : ∀ i : Fin len, ∃ o : Ov, OvIn w g (off + i * 7) o := fun i => hone i i.2
    refine ⟨List.ofFn (fun i : Fin len => (hch i).choose), ⟨some ⟨g, off, none⟩, _, by rw [List.length_ofFn], fun i q hq => ?_⟩, by simpa using hshort⟩
    obtain ⟨h1, h2⟩ := List.getElem?_eq_some_iff.1 hq
    simp at h1 h2
    rw [← h2]
    exact ⟨g, off, rfl, hg, (hch ⟨i, h1⟩).choose_spec⟩
end
end Go.Proofs.Ytcfmcakdgamdmaa
