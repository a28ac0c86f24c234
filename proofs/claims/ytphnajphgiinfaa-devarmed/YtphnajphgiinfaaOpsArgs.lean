/- The arguments that are scripts, as a walk reads them. -/
import Derived.Test.YtphnajphgiinfaaPlayed
import Derived.Deep.Slices
import Derived.ProofKit
import Derived.SizedLaws
namespace Go.Proofs.Ytphnajphgiinfaa
open Go.RowKit Go.Maps Go.ChangeShapes Go.WideShapes Go.ChangeAt Go.Deep

theorem adr_plain {w : World} {a : Addr} {v : Value} (h : w.cell? a = some v) : ∃ g off, a = ⟨g, off, none⟩ ∧ g < w.heap.size := by
  obtain ⟨g, off, spot⟩ := a
  unfold World.cell? at h
  cases e : w.heap[g]? with
  | none => simp [e] at h
  | some o =>
    cases spot with
    | none => exact ⟨g, off, rfl, (Array.getElem?_eq_some_iff.1 e).1⟩
    | some x => cases o <;> simp [e] at h
theorem adr_add (g off j : Nat) : (⟨g, off, none⟩ : Addr).add j = ⟨g, off + j, none⟩ := by unfold Addr.add; split <;> simp_all
theorem byte_of {z : Int} (h : (Lit.int .u8 z).wf = true) : ((UInt8.ofNat z.toNat).toNat : Int) = z := by
  have hb : 0 ≤ z ∧ z ≤ 255 := by simpa [Lit.wf, IntKind.min, IntKind.max, IntKind.bits, IntKind.signed] using h
  rw [UInt8.toNat_ofNat']
  omega
theorem ncells5 : Try.prog.cellsOf 5 = 1 := by kernel_rfl
theorem ncells3 : Try.prog.cellsOf 3 = 1 := by kernel_rfl
theorem ncells4 : Try.prog.cellsOf 4 = 1 := by kernel_rfl
theorem ncells29 : Try.prog.cellsOf 29 = 1 := by kernel_rfl
theorem ncells24 : Try.prog.cellsOf 24 = 1 := by kernel_rfl
theorem ncells53 : Try.prog.cellsOf 53 = 8 := by kernel_rfl
theorem nbytes53 : Try.prog.bytesOf 53 = 96 := by kernel_rfl

section
variable {H : Type} {enc : TypeId × Value → H} {w : World} {fuel : Nat} {a0 : Option Addr} {len cap : Nat} {x : DataW H × List MemPlace}

theorem text_of {cs : List Value} (hf : DataW.trod enc Try.prog w 0 (fun _ => true) true fuel 29 cs = some x) :
    ∃ (a : Option Addr) (cap : Nat) (bs : List UInt8), cs = [.slice a bs.length cap] ∧ BytesIn w.heap.size w a bs := by
  rcases open_ints Try.underlying29 Try.underlying5 ncells5 hf with ⟨hcs, hx⟩ | ⟨a, len', cap', zs, hcs, _, hl, hm, hz, hx, hcell, hwz⟩
  · exact ⟨none, 0, [], hcs, fun j c hj => by simp at hj⟩
  · simp only [if_true] at hz
    have hlen : ((zs.take len').map (fun z => UInt8.ofNat z.toNat)).length = len' := by simp; omega
    refine ⟨some a, cap', (zs.take len').map (fun z => UInt8.ofNat z.toNat), by rw [hlen]; exact hcs, fun j c hj => ?_⟩
    have hjl : j < len' := by
      have := (List.getElem?_eq_some_iff.1 hj).1
      rw [hlen] at this
      exact this
    have h0 := hcell 0 (by omega)
    have ha : a.add 0 = a := by simp [Addr.add]
    rw [ha] at h0
    obtain ⟨g, off, rfl, hg⟩ := adr_plain h0
    have hcj := hcell j (by omega)
    rw [adr_add] at hcj
    refine ⟨g, off, rfl, hg, ?_⟩
    rw [hcj]
    have hzj : zs[j]? = some zs[j] := List.getElem?_eq_getElem (by omega)
    rw [List.getElem?_map, List.getElem?_take, if_pos hjl, hzj] at hj
    simp at hj
    subst hj
    rw [byte_of (hwz _ (List.getElem_mem (by omega)))]
    simp [List.getD, hzj]
theorem nums_of {cs : List Value} (hf : DataW.trod enc Try.prog w 0 (fun _ => true) true fuel 24 cs = some x) :
    ∃ (a : Option Addr) (cap : Nat) (zs : List Int), cs = [.slice a zs.length cap] ∧ FatesIn w.heap.size w a zs := by
  rcases open_ints Try.underlying24 Try.underlying3 ncells3 hf with ⟨hcs, hx⟩ | ⟨a, len', cap', zs, hcs, _, hl, hm, hz, hx, hcell, hwz⟩
  · exact ⟨none, 0, [], hcs, fun j c hj => by simp at hj⟩
  · simp only [if_true] at hz
    have hlen : (zs.take len').length = len' := by simp; omega
    refine ⟨some a, cap', zs.take len', by rw [hlen]; exact hcs, fun j f hj => ?_⟩
    have hjl : j < len' := by
      have := (List.getElem?_eq_some_iff.1 hj).1
      rw [hlen] at this
      exact this
    have h0 := hcell 0 (by omega)
    have ha : a.add 0 = a := by simp [Addr.add]
    rw [ha] at h0
    obtain ⟨g, off, rfl, hg⟩ := adr_plain h0
    have hcj := hcell j (by omega)
    rw [adr_add] at hcj
    have hzj : zs[j]? = some zs[j] := List.getElem?_eq_getElem (by omega)
    rw [List.getElem?_take, if_pos hjl, hzj] at hj
    simp at hj
    subst hj
    refine ⟨g, off, rfl, hg, ?_⟩
    rw [hcj]
    simp [List.getD, hzj]

theorem eight {l : List Value} (h : l.length = 8) : ∃ c0 c1 c2 c3 c4 c5 c6 c7, l = [c0, c1, c2, c3, c4, c5, c6, c7] := by
  rcases l with _ | ⟨c0, _ | ⟨c1, _ | ⟨c2, _ | ⟨c3, _ | ⟨c4, _ | ⟨c5, _ | ⟨c6, _ | ⟨c7, _ | ⟨c8, r⟩⟩⟩⟩⟩⟩⟩⟩⟩
  all_goals first | exact ⟨_, _, _, _, _, _, _, _, rfl⟩ | (simp at h; done) | (exfalso; simp at h; omega)

theorem ops_of (hf : DataW.trod enc Try.prog w 0 (fun _ => true) true fuel 47 [.slice a0 len cap] = some x) :
    ∃ l : List OpA, l.length = len ∧ OpsAt w.heap.size w a0 l := by
  rcases open_slice Try.underlying47 hf with ⟨hcs, hx⟩ | ⟨a, len', cap', m, n, D, Pl, hcs, _, hl, hm, hmm, hx, hel⟩
  · simp at hcs
    obtain ⟨_, rfl, _⟩ := hcs
    exact ⟨[], rfl, fun j c hj => by simp at hj⟩
  · simp at hcs
    obtain ⟨rfl, rfl, rfl⟩ := hcs
    simp only [if_true] at hmm
    subst hmm
    simp only [ncells53] at hel
    by_cases hlen0 : len = 0
    · exact ⟨[], hlen0.symm, fun j c hj => by simp at hj⟩
    obtain ⟨g, off, rfl, hg⟩ : ∃ g off, a = ⟨g, off, none⟩ ∧ g < w.heap.size := by
      obtain ⟨cs0, hc0, _⟩ := hel 0 (by omega)
      obtain ⟨_, hl0, hcc⟩ := World.cells?_some hc0
      have h0 := hcc 0 (by decide)
      have ha : (a.add (0 * 8)).add 0 = a := by simp [Addr.add]
      rw [ha] at h0
      obtain ⟨c, hc⟩ : ∃ c, cs0[0]? = some c := ⟨cs0[0], List.getElem?_eq_getElem (by omega)⟩
      rw [hc] at h0
      exact adr_plain h0
    have hone : ∀ i, i < len → ∃ o : OpA, OpAt w.heap.size w (some ⟨g, off, none⟩) i o := by
      intro i hi
      obtain ⟨cs', hc', ht'⟩ := hel i (by omega)
      obtain ⟨xs, n', _, _, hlen8, hxl, hfld⟩ := DataW.trod_struct Try.underlying53 ht'
      rw [ncells53] at hlen8
      obtain ⟨c0, c1, c2, c3, c4, c5, c6, c7, rfl⟩ := eight hlen8
      have hcs := (World.cells?_some hc').2.2
      have f0 := hcs 0 (by decide)
      have f1 := hcs 1 (by decide)
      have f2 := hcs 2 (by decide)
      have f3 := hcs 3 (by decide)
      have f4 := hcs 4 (by decide)
      have f5 := hcs 5 (by decide)
      have f6 := hcs 6 (by decide)
      have f7 := hcs 7 (by decide)
      rw [adr_add, adr_add] at f0 f1 f2 f3 f4 f5 f6 f7
      simp only [List.getElem?_cons_zero, List.getElem?_cons_succ] at f0 f1 f2 f3 f4 f5 f6 f7
      have hx8 : xs.length = 8 := hxl
      have t0 : DataW.trod enc Try.prog w 0 (fun _ => true) true n' 3 (List.take (Try.prog.cellsOf 3) (List.drop 0 [c0, c1, c2, c3, c4, c5, c6, c7])) = xs[0]? := hfld 0 _ rfl
      have t1 : DataW.trod enc Try.prog w 0 (fun _ => true) true n' 3 (List.take (Try.prog.cellsOf 3) (List.drop 1 [c0, c1, c2, c3, c4, c5, c6, c7])) = xs[1]? := hfld 1 _ rfl
      have t2 : DataW.trod enc Try.prog w 0 (fun _ => true) true n' 3 (List.take (Try.prog.cellsOf 3) (List.drop 2 [c0, c1, c2, c3, c4, c5, c6, c7])) = xs[2]? := hfld 2 _ rfl
      have t3 : DataW.trod enc Try.prog w 0 (fun _ => true) true n' 3 (List.take (Try.prog.cellsOf 3) (List.drop 3 [c0, c1, c2, c3, c4, c5, c6, c7])) = xs[3]? := hfld 3 _ rfl
      have t4 : DataW.trod enc Try.prog w 0 (fun _ => true) true n' 5 (List.take (Try.prog.cellsOf 5) (List.drop 4 [c0, c1, c2, c3, c4, c5, c6, c7])) = xs[4]? := hfld 4 _ rfl
      have t5 : DataW.trod enc Try.prog w 0 (fun _ => true) true n' 29 (List.take (Try.prog.cellsOf 29) (List.drop 5 [c0, c1, c2, c3, c4, c5, c6, c7])) = xs[5]? := hfld 5 _ rfl
      have t6 : DataW.trod enc Try.prog w 0 (fun _ => true) true n' 24 (List.take (Try.prog.cellsOf 24) (List.drop 6 [c0, c1, c2, c3, c4, c5, c6, c7])) = xs[6]? := hfld 6 _ rfl
      have t7 : DataW.trod enc Try.prog w 0 (fun _ => true) true n' 4 (List.take (Try.prog.cellsOf 4) (List.drop 7 [c0, c1, c2, c3, c4, c5, c6, c7])) = xs[7]? := hfld 7 _ rfl
      rw [ncells3, List.getElem?_eq_getElem (by omega)] at t0 t1 t2 t3
      rw [ncells5, List.getElem?_eq_getElem (by omega)] at t4
      rw [ncells29, List.getElem?_eq_getElem (by omega)] at t5
      rw [ncells24, List.getElem?_eq_getElem (by omega)] at t6
      rw [ncells4, List.getElem?_eq_getElem (by omega)] at t7
      obtain ⟨z0, e0, _, _⟩ := DataW.trod_int Try.underlying3 t0
      obtain ⟨z1, e1, _, _⟩ := DataW.trod_int Try.underlying3 t1
      obtain ⟨z2, e2, _, wz2⟩ := DataW.trod_int Try.underlying3 t2
      obtain ⟨z3, e3, _, _⟩ := DataW.trod_int Try.underlying3 t3
      obtain ⟨z4, e4, _, wz4⟩ := DataW.trod_int Try.underlying5 t4
      obtain ⟨aT, capT, T, e5, hT⟩ := text_of t5
      obtain ⟨aF, capF, fs, e6, hF⟩ := nums_of t6
      obtain ⟨b7, e7, _⟩ := DataW.trod_bool Try.underlying4 t7
      have g0 : c0 = .int .i64 z0 := by simpa using e0
      have g1 : c1 = .int .i64 z1 := by simpa using e1
      have g2 : c2 = .int .i64 z2 := by simpa using e2
      have g3 : c3 = .int .i64 z3 := by simpa using e3
      have g4 : c4 = .int .u8 z4 := by simpa using e4
      have g5 : c5 = .slice aT T.length capT := by simpa using e5
      have g6 : c6 = .slice aF fs.length capF := by simpa using e6
      have g7 : c7 = .bool b7 := by simpa using e7
      rw [g0] at f0
      rw [g1] at f1
      rw [g2] at f2
      rw [g3] at f3
      rw [g4, ← byte_of wz4] at f4
      rw [g5] at f5
      rw [g6] at f6
      rw [g7] at f7
      exact ⟨⟨z0, z2, z3, UInt8.ofNat z4.toNat, T, fs, b7⟩, wz2, g, off, z1, aT, capT, aF, capF, rfl, hg, f0, f1, f2, f3, f4, f5, f6, f7, hT, hF⟩
    have hch : ∀ i : Fin len, ∃ o : OpA, OpAt w.heap.size w (some ⟨g, off, none⟩) i o := fun i => hone i i.2
    refine ⟨List.ofFn (fun i : Fin len => (hch i).choose), by simp, fun i q hq => ?_⟩
    obtain ⟨h1, h2⟩ := List.getElem?_eq_some_iff.1 hq
    simp at h1 h2
    rw [← h2]
    exact (hch ⟨i, h1⟩).choose_spec
end
end Go.Proofs.Ytphnajphgiinfaa
