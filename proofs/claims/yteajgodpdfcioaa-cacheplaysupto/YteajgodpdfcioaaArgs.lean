/- The arguments: numbers, lists of uses, scripts, as a walk reads them. -/
import Derived.Test.YteajgodpdfcioaaRows
import Derived.Test.YteajgodpdfcioaaBase
import Derived.Deep.Slices
import Derived.WalkKit
import Derived.ProofKit
import Derived.OpenShut
import Derived.SizedLaws
import Derived.Lib.SmallJoins
namespace Go.Proofs.Yteajgodpdfcioaa
open Go.ChangeShapes Go.WideShapes Go.ChangeAt Go.RowKit Go.Deep Go.Joins

theorem own_knob : ownKnob Try.prog.godebug = none := by kernel_rfl
theorem laid_out : laidOutB Try.prog = true := by kernel_rfl
theorem cellsIn : Try.prog.cellsOf 3 = 1 := by kernel_rfl
theorem cellsUse : Try.prog.cellsOf 44 = 2 := by kernel_rfl
theorem bytesUse : Try.prog.bytesOf 44 = 16 := by kernel_rfl
theorem cellsOp : Try.prog.cellsOf 33 = 4 := by kernel_rfl
theorem bytesOp : Try.prog.bytesOf 33 = 32 := by kernel_rfl
theorem addr_plain {w : World} {a : Addr} {v : Value} (h : w.cell? a = some v) : ∃ g off, a = ⟨g, off, none⟩ ∧ g < w.heap.size := by
  obtain ⟨g, off, spot⟩ := a
  unfold World.cell? at h
  cases e : w.heap[g]? with
  | none => simp [e] at h
  | some o =>
    cases spot with
    | none => exact ⟨g, off, rfl, (Array.getElem?_eq_some_iff.1 e).1⟩
    | some x => cases o <;> simp [e] at h
theorem reach_is : reachBytes ≤ 140737488355328 := by decide
/-- A number and what it is. -/
structure Us where
  n : Int
  x : Int
structure UsesIn (w : World) (v : Value) (L : List Us) : Prop where
  is : ∃ a c, v = .slice a L.length c ∧ L.length ≤ c ∧ (a = none → c = 0) ∧ ∀ (j : Nat) u, L[j]? = some u → (∃ g off, a = some ⟨g, off, none⟩ ∧ g < w.heap.size ∧ w.cell? ⟨g, off + j * 2, none⟩ = some (.int .i64 u.n) ∧ w.cell? ⟨g, off + j * 2 + 1, none⟩ = some (.int .i64 u.x)) ∧ (Lit.int .i64 u.n).wf = true ∧ (Lit.int .i64 u.x).wf = true
  short : L.length * 16 ≤ 140737488355328
/-- One step of a script. -/
structure Ov where
  kind : Int
  on : Int
  n : Int
  x : Int
structure OvIn (w : World) (g off : Nat) (o : Ov) : Prop where
  c0 : w.cell? ⟨g, off, none⟩ = some (.int .i64 o.kind)
  c1 : w.cell? ⟨g, off + 1, none⟩ = some (.int .i64 o.on)
  c2 : w.cell? ⟨g, off + 2, none⟩ = some (.int .i64 o.n)
  c3 : w.cell? ⟨g, off + 3, none⟩ = some (.int .i64 o.x)
  w0 : (Lit.int .i64 o.kind).wf = true
  w1 : (Lit.int .i64 o.on).wf = true
  w2 : (Lit.int .i64 o.n).wf = true
  w3 : (Lit.int .i64 o.x).wf = true
structure OpsIn (w : World) (v : Value) (L : List Ov) : Prop where
  is : ∃ a c, v = .slice a L.length c ∧ L.length ≤ c ∧ (a = none → c = 0) ∧ ∀ (j : Nat) o, L[j]? = some o → ∃ g off, a = some ⟨g, off, none⟩ ∧ g < w.heap.size ∧ OvIn w g (off + j * 4) o
  short : L.length * 32 ≤ 140737488355328
section
variable {H : Type} {enc : TypeId × Value → H} {w : World} {fuel : Nat}
theorem int_in {cs : List Value} {x : DataW H × List MemPlace} (hf : DataW.trod enc Try.prog w 0 (fun _ => true) true fuel 3 cs = some x) : ∃ z, cs = [.int .i64 z] ∧ (Lit.int .i64 z).wf = true := by
  obtain ⟨z, e, _, hw⟩ := DataW.trod_int Try.underlying3 hf
  exact ⟨z, e, hw⟩
theorem two {l : List Value} (h : l.length = 2) : ∃ c0 c1, l = [c0, c1] := by
  rcases l with _ | ⟨c0, _ | ⟨c1, _ | ⟨c2, r⟩⟩⟩
  all_goals first | exact ⟨_, _, rfl⟩ | (simp at h; done)
theorem four {l : List Value} (h : l.length = 4) : ∃ c0 c1 c2 c3, l = [c0, c1, c2, c3] := by
  rcases l with _ | ⟨c0, _ | ⟨c1, _ | ⟨c2, _ | ⟨c3, _ | ⟨c4, r⟩⟩⟩⟩⟩
  all_goals first | exact ⟨_, _, _, _, rfl⟩ | (simp at h; done)
theorem uses_in {v : Value} {x : DataW H × List MemPlace} (hf : DataW.trod enc Try.prog w 0 (fun _ => true) true fuel 36 [v] = some x) (hwt : ∀ n ∈ x.1.weights Try.prog 36, n ≤ reachBytes) :
    ∃ L, UsesIn w v L := by
  rcases open_slice Try.underlying36 hf with ⟨hcs, hx⟩ | ⟨a, len, cap, m, n, D, Pl, hcs, _, hl, hm, hmm, hx, hel⟩
  · simp at hcs
    exact ⟨[], ⟨none, 0, hcs, Nat.le_refl _, fun _ => rfl, fun j c hj => by simp at hj⟩, by decide⟩
  · simp at hcs
    simp only [if_true] at hmm
    subst hmm hx hcs
    have hshort : len * 16 ≤ 140737488355328 := by
      have := hwt _ (by simp only [DataW.weights, Try.underlying36]; exact List.mem_cons_self ..)
      have hr := reach_is
      rw [bytesUse] at this
      simp at this
      omega
    simp only [cellsUse] at hel
    by_cases hlen0 : len = 0
    · subst hlen0
      exact ⟨[], ⟨_, _, rfl, Nat.zero_le _, (fun h => by cases h), fun j c hj => by simp at hj⟩, by decide⟩
    obtain ⟨g, off, rfl, hg⟩ : ∃ g off, a = ⟨g, off, none⟩ ∧ g < w.heap.size := by
      obtain ⟨cs0, hc0, _⟩ := hel 0 (by omega)
      obtain ⟨_, hl0, hcc⟩ := World.cells?_some hc0
      have h0 := hcc 0 (by decide)
      have ha : (a.add (0 * 2)).add 0 = a := by simp [Addr.add]
      rw [ha] at h0
      obtain ⟨c, hc⟩ : ∃ c, cs0[0]? = some c := ⟨cs0[0], List.getElem?_eq_getElem (by omega)⟩
      rw [hc] at h0
      exact addr_plain h0
    have hone : ∀ i, i < len → ∃ o : Us, w.cell? ⟨g, off + i * 2, none⟩ = some (.int .i64 o.n) ∧ w.cell? ⟨g, off + i * 2 + 1, none⟩ = some (.int .i64 o.x) ∧ (Lit.int .i64 o.n).wf = true ∧ (Lit.int .i64 o.x).wf = true := by
      intro i hi
      obtain ⟨cs', hc', ht'⟩ := hel i (by omega)
      obtain ⟨xs, n', _, hD, hlen4, hxl, hfld⟩ := DataW.trod_struct Try.underlying44 ht'
      rw [cellsUse] at hlen4
      obtain ⟨c0, c1, rfl⟩ := two hlen4
      have hcs := (World.cells?_some hc').2.2
      have f0 := hcs 0 (by decide)
      have f1 := hcs 1 (by decide)
      rw [add_at, add_at] at f0 f1
      simp only [List.getElem?_cons_zero, List.getElem?_cons_succ] at f0 f1
      have hx4 : xs.length = 2 := hxl
      have t0 : DataW.trod enc Try.prog w 0 (fun _ => true) true n' 3 (List.take (Try.prog.cellsOf 3) (List.drop 0 [c0, c1])) = xs[0]? := hfld 0 _ rfl
      have t1 : DataW.trod enc Try.prog w 0 (fun _ => true) true n' 3 (List.take (Try.prog.cellsOf 3) (List.drop 1 [c0, c1])) = xs[1]? := hfld 1 _ rfl
      rw [cellsIn, List.getElem?_eq_getElem (by omega)] at t0 t1
      obtain ⟨z0, e0, _, w0⟩ := DataW.trod_int Try.underlying3 t0
      obtain ⟨z1, e1, _, w1⟩ := DataW.trod_int Try.underlying3 t1
      have g0 : c0 = .int .i64 z0 := by simpa using e0
      have g1 : c1 = .int .i64 z1 := by simpa using e1
      rw [g0] at f0
      rw [g1] at f1
      exact ⟨⟨z0, z1⟩, f0, f1, w0, w1⟩
    have hch : ∀ i : Fin len, ∃ o : Us, w.cell? ⟨g, off + i * 2, none⟩ = some (.int .i64 o.n) ∧ w.cell? ⟨g, off + i * 2 + 1, none⟩ = some (.int .i64 o.x) ∧ (Lit.int .i64 o.n).wf = true ∧ (Lit.int .i64 o.x).wf = true := fun i => hone i i.2
    refine ⟨List.ofFn (fun i : Fin len => (hch i).choose), ⟨some ⟨g, off, none⟩, _, by rw [List.length_ofFn], by rw [List.length_ofFn]; exact hl, (fun h => by cases h), fun i q hq => ?_⟩, by simpa using hshort⟩
    obtain ⟨h1, h2⟩ := List.getElem?_eq_some_iff.1 hq
    simp at h1 h2
    rw [← h2]
    obtain ⟨s1, s2, s3, s4⟩ := (hch ⟨i, h1⟩).choose_spec
    exact ⟨⟨g, off, rfl, hg, s1, s2⟩, s3, s4⟩
theorem ops_in {v : Value} {x : DataW H × List MemPlace} (hf : DataW.trod enc Try.prog w 0 (fun _ => true) true fuel 23 [v] = some x) (hwt : ∀ n ∈ x.1.weights Try.prog 23, n ≤ reachBytes) :
    ∃ L, OpsIn w v L := by
  rcases open_slice Try.underlying23 hf with ⟨hcs, hx⟩ | ⟨a, len, cap, m, n, D, Pl, hcs, _, hl, hm, hmm, hx, hel⟩
  · simp at hcs
    exact ⟨[], ⟨none, 0, hcs, Nat.le_refl _, fun _ => rfl, fun j c hj => by simp at hj⟩, by decide⟩
  · simp at hcs
    simp only [if_true] at hmm
    subst hmm hx hcs
    have hshort : len * 32 ≤ 140737488355328 := by
      have := hwt _ (by simp only [DataW.weights, Try.underlying23]; exact List.mem_cons_self ..)
      have hr := reach_is
      rw [bytesOp] at this
      simp at this
      omega
    simp only [cellsOp] at hel
    by_cases hlen0 : len = 0
    · subst hlen0
      exact ⟨[], ⟨_, _, rfl, Nat.zero_le _, (fun h => by cases h), fun j c hj => by simp at hj⟩, by decide⟩
    obtain ⟨g, off, rfl, hg⟩ : ∃ g off, a = ⟨g, off, none⟩ ∧ g < w.heap.size := by
      obtain ⟨cs0, hc0, _⟩ := hel 0 (by omega)
      obtain ⟨_, hl0, hcc⟩ := World.cells?_some hc0
      have h0 := hcc 0 (by decide)
      have ha : (a.add (0 * 4)).add 0 = a := by simp [Addr.add]
      rw [ha] at h0
      obtain ⟨c, hc⟩ : ∃ c, cs0[0]? = some c := ⟨cs0[0], List.getElem?_eq_getElem (by omega)⟩
      rw [hc] at h0
      exact addr_plain h0
    have hone : ∀ i, i < len → ∃ o : Ov, OvIn w g (off + i * 4) o := by
      intro i hi
      obtain ⟨cs', hc', ht'⟩ := hel i (by omega)
      obtain ⟨xs, n', _, hD, hlen4, hxl, hfld⟩ := DataW.trod_struct Try.underlying33 ht'
      rw [cellsOp] at hlen4
      obtain ⟨c0, c1, c2, c3, rfl⟩ := four hlen4
      have hcs := (World.cells?_some hc').2.2
      have f0 := hcs 0 (by decide)
      have f1 := hcs 1 (by decide)
      have f2 := hcs 2 (by decide)
      have f3 := hcs 3 (by decide)
      rw [add_at, add_at] at f0 f1 f2 f3
      simp only [List.getElem?_cons_zero, List.getElem?_cons_succ] at f0 f1 f2 f3
      have hx4 : xs.length = 4 := hxl
      have t0 : DataW.trod enc Try.prog w 0 (fun _ => true) true n' 3 (List.take (Try.prog.cellsOf 3) (List.drop 0 [c0, c1, c2, c3])) = xs[0]? := hfld 0 _ rfl
      have t1 : DataW.trod enc Try.prog w 0 (fun _ => true) true n' 3 (List.take (Try.prog.cellsOf 3) (List.drop 1 [c0, c1, c2, c3])) = xs[1]? := hfld 1 _ rfl
      have t2 : DataW.trod enc Try.prog w 0 (fun _ => true) true n' 3 (List.take (Try.prog.cellsOf 3) (List.drop 2 [c0, c1, c2, c3])) = xs[2]? := hfld 2 _ rfl
      have t3 : DataW.trod enc Try.prog w 0 (fun _ => true) true n' 3 (List.take (Try.prog.cellsOf 3) (List.drop 3 [c0, c1, c2, c3])) = xs[3]? := hfld 3 _ rfl
      rw [cellsIn, List.getElem?_eq_getElem (by omega)] at t0 t1 t2 t3
      obtain ⟨z0, e0, _, w0⟩ := DataW.trod_int Try.underlying3 t0
      obtain ⟨z1, e1, _, w1⟩ := DataW.trod_int Try.underlying3 t1
      obtain ⟨z2, e2, _, w2⟩ := DataW.trod_int Try.underlying3 t2
      obtain ⟨z3, e3, _, w3⟩ := DataW.trod_int Try.underlying3 t3
      have g0 : c0 = .int .i64 z0 := by simpa using e0
      have g1 : c1 = .int .i64 z1 := by simpa using e1
      have g2 : c2 = .int .i64 z2 := by simpa using e2
      have g3 : c3 = .int .i64 z3 := by simpa using e3
      rw [g0] at f0
      rw [g1] at f1
      rw [g2] at f2
      rw [g3] at f3
      exact ⟨⟨z0, z1, z2, z3⟩, f0, f1, f2, f3, w0, w1, w2, w3⟩
    have hch : ∀ i : Fin len, ∃ o : Ov, OvIn w g (off + i * 4) o := fun i => hone i i.2
    refine ⟨List.ofFn (fun i : Fin len => (hch i).choose), ⟨some ⟨g, off, none⟩, _, by rw [List.length_ofFn], by rw [List.length_ofFn]; exact hl, (fun h => by cases h), fun i q hq => ?_⟩, by simpa using hshort⟩
    obtain ⟨h1, h2⟩ := List.getElem?_eq_some_iff.1 hq
    simp at h1 h2
    rw [← h2]
    exact ⟨g, off, rfl, hg, (hch ⟨i, h1⟩).choose_spec⟩
end
end Go.Proofs.Yteajgodpdfcioaa
