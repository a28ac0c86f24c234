/- The argument that is a script, as a walk reads it. -/
import Derived.Test.YtlokplnapaghhaaDoorArgs9
namespace Go.Proofs.YtlokplnapaghhaaDoor
open Go.ChangeShapes Go.WideShapes Go.ChangeAt Go.RowKit Go.Deep Go.Joins

theorem cellsBs : Tryd.prog.cellsOf 37 = 1 := by kernel_rfl
theorem cellsBo : Tryd.prog.cellsOf 4 = 1 := by kernel_rfl
theorem cellsOp : Tryd.prog.cellsOf 39 = 4 := by kernel_rfl
theorem bytesOp : 1 ≤ Tryd.prog.bytesOf 39 := of_decide_eq_true (by kernel_rfl)
/-- One step of a script. -/
structure OpV where
  other : Bool
  kind : Int
  n : Int
  a : Option Addr
  c : Nat
  bs : List UInt8
structure OpIn (w : World) (g off : Nat) (o : OpV) : Prop where
  c0 : w.cell? ⟨g, off, none⟩ = some (.bool o.other)
  c1 : w.cell? ⟨g, off + 1, none⟩ = some (.int .i64 o.kind)
  c2 : w.cell? ⟨g, off + 2, none⟩ = some (.int .i64 o.n)
  c3 : w.cell? ⟨g, off + 3, none⟩ = some (.slice o.a o.bs.length o.c)
  bytes : BytesAt w.heap.size w o.a o.bs
  le : o.bs.length ≤ o.c
  nil : o.a = none → o.c = 0
  short : o.bs.length ≤ 140737488351232
structure OpsIn (w : World) (v : Value) (L : List OpV) : Prop where
  is : ∃ a c, v = .slice a L.length c ∧ ∀ (j : Nat) o, L[j]? = some o → ∃ g off, a = some ⟨g, off, none⟩ ∧ g < w.heap.size ∧ OpIn w g (off + j * 4) o
  short : L.length ≤ 140737488355328
section
variable {H : Type} {enc : TypeId × Value → H} {w : World} {fuel : Nat}
theorem weightsAll_in {t : TypeId} {d : DataW H} {n : Nat} (hn : n ∈ d.weights Tryd.prog t) : ∀ {l : List (DataW H)}, d ∈ l → n ∈ DataW.weightsAll Tryd.prog t l
  | [], h => by cases h
  | y :: r, h => by
    rw [DataW.weightsAll, List.mem_append]
    rcases List.mem_cons.1 h with rfl | h
    · exact .inl hn
    · exact .inr (weightsAll_in hn h)
theorem bytes_reach {a : Option Addr} {l c : Nat} {x : DataW H × List MemPlace} (hf : DataW.trod enc Tryd.prog w 0 (fun _ => true) true fuel 37 [.slice a l c] = some x) (hwt : ∀ n ∈ x.1.weights Tryd.prog 37, n ≤ reachBytes) : l ≤ 140737488351232 := by
  rcases open_ints Tryd.underlying37 Tryd.underlying5 cells5 hf with ⟨hcs, hx⟩ | ⟨a, len', cap', zs, hcs, _, hl, hm, hz, hx, hcell, hwz⟩
  · simp at hcs; omega
  · simp at hcs
    simp only [if_true] at hz
    subst hx
    have := hwt _ (by simp only [DataW.weights, Tryd.underlying37]; exact List.mem_cons_self ..)
    rw [bytes5] at this
    have hr : reachBytes = 140737488351232 := rfl
    simp [Go.ChangeShapes.lits] at this
    omega
theorem four {l : List Value} (h : l.length = 4) : ∃ c0 c1 c2 c3, l = [c0, c1, c2, c3] := by
  rcases l with _ | ⟨c0, _ | ⟨c1, _ | ⟨c2, _ | ⟨c3, _ | ⟨c4, r⟩⟩⟩⟩⟩
  all_goals first | exact ⟨_, _, _, _, rfl⟩ | (simp at h; done)
theorem ops_in {v : Value} {x : DataW H × List MemPlace} (hf : DataW.trod enc Tryd.prog w 0 (fun _ => true) true fuel 23 [v] = some x) (hwt : ∀ n ∈ x.1.weights Tryd.prog 23, n ≤ reachBytes) :
    ∃ L, OpsIn w v L := by
  rcases open_slice Tryd.underlying23 hf with ⟨hcs, hx⟩ | ⟨a, len, cap, m, n, D, Pl, hcs, _, hl, hm, hmm, hx, hel⟩
  · simp at hcs
    exact ⟨[], ⟨none, 0, hcs, fun j c hj => by simp at hj⟩, by decide⟩
  · simp at hcs
    simp only [if_true] at hmm
    subst hmm hx hcs
    have hshort : len ≤ 140737488355328 := by
      have := hwt _ (by simp only [DataW.weights, Tryd.underlying23]; exact List.mem_cons_self ..)
      have hr := reach_is
      have hb := bytesOp
      simp at this
      have h2 := Nat.le_mul_of_pos_right (len + (m - len)) hb
      omega
    have hin : ∀ i, i < len → ∀ n ∈ (D i).weights Tryd.prog 39, n ≤ reachBytes := fun i hi n hn => hwt n (by
      simp only [DataW.weights, Tryd.underlying23]
      exact List.mem_cons_of_mem _ (List.mem_append.2 (.inl (weightsAll_in hn (List.mem_map.2 ⟨i, List.mem_range.2 hi, rfl⟩)))))
    simp only [cellsOp] at hel
    by_cases hlen0 : len = 0
    · subst hlen0
      exact ⟨[], ⟨_, _, rfl, fun j c hj => by simp at hj⟩, by decide⟩
    obtain ⟨g, off, rfl, hg⟩ : ∃ g off, a = ⟨g, off, none⟩ ∧ g < w.heap.size := by
      obtain ⟨cs0, hc0, _⟩ := hel 0 (by omega)
      obtain ⟨_, hl0, hcc⟩ := World.cells?_some hc0
      have h0 := hcc 0 (by decide)
      have ha : (a.add (0 * 4)).add 0 = a := by simp [Addr.add]
      rw [ha] at h0
      obtain ⟨c, hc⟩ : ∃ c, cs0[0]? = some c := ⟨cs0[0], List.getElem?_eq_getElem (by omega)⟩
      rw [hc] at h0
      exact addr_plain h0
    have hone : ∀ i, i < len → ∃ o : OpV, OpIn w g (off + i * 4) o := by
      intro i hi
      obtain ⟨cs', hc', ht'⟩ := hel i (by omega)
      have hwi := hin i hi
      obtain ⟨xs, n', _, hD, hlen4, hxl, hfld⟩ := DataW.trod_struct Tryd.underlying39 ht'
      have hD1 : D i = .agg (xs.map (·.1)) := congrArg Prod.fst hD
      rw [cellsOp] at hlen4
      obtain ⟨c0, c1, c2, c3, rfl⟩ := four hlen4
      have hcs := (World.cells?_some hc').2.2
      have f0 := hcs 0 (by decide)
      have f1 := hcs 1 (by decide)
      have f2 := hcs 2 (by decide)
      have f3 := hcs 3 (by decide)
      rw [add_at, add_at] at f0 f1 f2 f3
      simp only [List.getElem?_cons_zero, List.getElem?_cons_succ] at f0 f1 f2 f3
      have hx4 : xs.length = 4 := hxl
      have t0 : DataW.trod enc Tryd.prog w 0 (fun _ => true) true n' 4 (List.take (Tryd.prog.cellsOf 4) (List.drop 0 [c0, c1, c2, c3])) = xs[0]? := hfld 0 _ rfl
      have t1 : DataW.trod enc Tryd.prog w 0 (fun _ => true) true n' 3 (List.take (Tryd.prog.cellsOf 3) (List.drop 1 [c0, c1, c2, c3])) = xs[1]? := hfld 1 _ rfl
      have t2 : DataW.trod enc Tryd.prog w 0 (fun _ => true) true n' 3 (List.take (Tryd.prog.cellsOf 3) (List.drop 2 [c0, c1, c2, c3])) = xs[2]? := hfld 2 _ rfl
      have t3 : DataW.trod enc Tryd.prog w 0 (fun _ => true) true n' 37 (List.take (Tryd.prog.cellsOf 37) (List.drop 3 [c0, c1, c2, c3])) = xs[3]? := hfld 3 _ rfl
      rw [cellsBo, List.getElem?_eq_getElem (by omega)] at t0
      rw [cellsIn, List.getElem?_eq_getElem (by omega)] at t1 t2
      rw [cellsBs, List.getElem?_eq_getElem (by omega)] at t3
      obtain ⟨b0, e0, _⟩ := DataW.trod_bool Tryd.underlying4 t0
      obtain ⟨z1, e1, _, _⟩ := DataW.trod_int Tryd.underlying3 t1
      obtain ⟨z2, e2, _, _⟩ := DataW.trod_int Tryd.underlying3 t2
      have g0 : c0 = .bool b0 := by simpa using e0
      have g1 : c1 = .int .i64 z1 := by simpa using e1
      have g2 : c2 = .int .i64 z2 := by simpa using e2
      have hw3 : ∀ n ∈ (xs[3].1).weights Tryd.prog 37, n ≤ reachBytes := fun n hn => hwi n (by
        rw [hD1]
        simp only [DataW.weights, Tryd.underlying39]
        exact DataW.weights_mem_each (j := 3) (t := 37) rfl (by simp [hx4]) n hn)
      have t3' : DataW.trod enc Tryd.prog w 0 (fun _ => true) true n' 37 [c3] = some xs[3] := t3
      obtain ⟨bs, ⟨aB, cB, e3, q1, q2, q3⟩, _⟩ := bytes_in t3' hw3
      subst e3
      have q4 := bytes_reach t3' hw3
      rw [g0] at f0
      rw [g1] at f1
      rw [g2] at f2
      exact ⟨⟨b0, z1, z2, aB, cB, bs⟩, f0, f1, f2, f3, q1, q2, q3, q4⟩
    have hch : ∀ i : Fin len, ∃ o : OpV, OpIn w g (off + i * 4) o := fun i => hone i i.2
    refine ⟨List.ofFn (fun i : Fin len => (hch i).choose), ⟨some ⟨g, off, none⟩, _, by rw [List.length_ofFn], fun i q hq => ?_⟩, by simpa using hshort⟩
    obtain ⟨h1, h2⟩ := List.getElem?_eq_some_iff.1 hq
    simp at h1 h2
    rw [← h2]
    exact ⟨g, off, rfl, hg, (hch ⟨i, h1⟩).choose_spec⟩
end
end Go.Proofs.YtlokplnapaghhaaDoor
