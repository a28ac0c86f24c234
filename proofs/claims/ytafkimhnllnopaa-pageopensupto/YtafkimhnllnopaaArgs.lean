/- The arguments that are bytes, as a walk reads them. -/
import Derived.Test.YtafkimhnllnopaaRows
import Derived.Test.YtafkimhnllnopaaMore
import Derived.Deep.Slices
import Derived.WalkKit
import Derived.ProofKit
import Derived.OpenShut
import Derived.SizedLaws
import Derived.Lib.SmallJoins
namespace Go.Proofs.Ytafkimhnllnopaa
open Go.ChangeShapes Go.WideShapes Go.ChangeAt Go.RowKit Go.Deep Go.Joins

theorem own_knob : ownKnob Try.prog.godebug = none := by kernel_rfl
theorem laid_out : laidOutB Try.prog = true := by kernel_rfl
theorem cells5 : Try.prog.cellsOf 5 = 1 := by kernel_rfl
theorem bytes5 : Try.prog.bytesOf 5 = 1 := by kernel_rfl

theorem a_word {n : Int} (h : (Lit.int .u64 n).wf = true) : ∃ x : BitVec 64, n = (x.toNat : Int) := by
  have hb : 0 ≤ n ∧ n ≤ 18446744073709551615 := by simpa [Lit.wf, IntKind.min, IntKind.max, IntKind.bits, IntKind.signed] using h
  exact ⟨BitVec.ofNat 64 n.toNat, by rw [BitVec.toNat_ofNat]; omega⟩

theorem addr_plain {w : World} {a : Addr} {v : Value} (h : w.cell? a = some v) : ∃ g off, a = ⟨g, off, none⟩ ∧ g < w.heap.size := by
  obtain ⟨g, off, spot⟩ := a
  unfold World.cell? at h
  cases e : w.heap[g]? with
  | none => simp [e] at h
  | some o =>
    cases spot with
    | none => exact ⟨g, off, rfl, (Array.getElem?_eq_some_iff.1 e).1⟩
    | some x => cases o <;> simp [e] at h
theorem add_plain (g off j : Nat) : (⟨g, off, none⟩ : Addr).add j = ⟨g, off + j, none⟩ := by unfold Addr.add; split <;> simp_all
theorem u8_of {z : Int} (h : (Lit.int .u8 z).wf = true) : ((UInt8.ofNat z.toNat).toNat : Int) = z := by
  have hb : 0 ≤ z ∧ z ≤ 255 := by simpa [Lit.wf, IntKind.min, IntKind.max, IntKind.bits, IntKind.signed] using h
  rw [UInt8.toNat_ofNat']
  omega

section
variable {H : Type} {enc : TypeId × Value → H} {w : World} {fuel : Nat} {a0 : Option Addr} {len cap : Nat} {x : DataW H × List MemPlace}
theorem bytes_of (hf : DataW.trod enc Try.prog w 0 (fun _ => true) true fuel 27 [.slice a0 len cap] = some x) :
    ∃ bs : List UInt8, bs.length = len ∧ len ≤ cap ∧ BytesAt w.heap.size w a0 bs ∧ (len = 0 ∨ ∃ n ∈ x.1.weights Try.prog 27, len ≤ n) ∧ (a0 = none → cap = 0) ∧ (cap = 0 ∨ ∃ zs spare, x.1 = .slice zs spare ∧ zs.length = len) := by
  rcases open_ints Try.underlying27 Try.underlying5 cells5 hf with ⟨hcs, hx⟩ | ⟨a, len', cap', zs, hcs, _, hl, hm, hz, hx, hcell, hwz⟩
  · simp at hcs
    obtain ⟨_, rfl, rfl⟩ := hcs
    exact ⟨[], rfl, Nat.le_refl _, fun j c hj => by simp at hj, .inl rfl, fun _ => rfl, .inl rfl⟩
  · simp at hcs
    obtain ⟨rfl, rfl, rfl⟩ := hcs
    simp only [if_true] at hz
    have hlz : len ≤ zs.length := by omega
    refine ⟨(zs.take len).map (fun z => UInt8.ofNat z.toNat), by simp; omega, hl, fun j c hj => ?_, ?_, fun h => (by cases h), ?_⟩
    · have hjl : j < len := by
        have := (List.getElem?_eq_some_iff.1 hj).1
        simp at this
        omega
      have h0 := hcell 0 (by omega)
      have ha : a.add 0 = a := by simp [Addr.add]
      rw [ha] at h0
      obtain ⟨g, off, rfl, hg⟩ := addr_plain h0
      have hcj := hcell j (by omega)
      rw [add_plain] at hcj
      refine ⟨g, off, rfl, hg, ?_⟩
      rw [hcj]
      have hzj : zs[j]? = some zs[j] := List.getElem?_eq_getElem (by omega)
      rw [List.getElem?_map, List.getElem?_take, if_pos hjl, hzj] at hj
      simp at hj
      subst hj
      rw [u8_of (hwz _ (List.getElem_mem (by omega)))]
      simp [List.getD, hzj]
    · right
      subst hx
      refine ⟨_, by simp only [DataW.weights, Try.underlying27]; exact List.mem_cons_self .., ?_⟩
      rw [bytes5]
      simp [lits]
      omega
    · right
      subst hx
      exact ⟨_, _, rfl, by simp [lits]; omega⟩
/-- The same, with the length's bound that the reach pays. -/
theorem bytes_in (hf : DataW.trod enc Try.prog w 0 (fun _ => true) true fuel 27 [.slice a0 len cap] = some x) (hwt : ∀ n ∈ x.1.weights Try.prog 27, n ≤ reachBytes) :
    ∃ bs : List UInt8, bs.length = len ∧ len ≤ cap ∧ BytesAt w.heap.size w a0 bs ∧ len ≤ 140737488355328 ∧ (a0 = none → cap = 0) := by
  obtain ⟨bs, h1, h2, h3, h4, h5, _⟩ := bytes_of hf
  refine ⟨bs, h1, h2, h3, ?_, h5⟩
  rcases h4 with h | ⟨n, hn, hle⟩
  · omega
  · have := hwt n hn
    have hr : reachBytes ≤ 140737488355328 := by decide
    omega
end

theorem cells26 : Try.prog.cellsOf 26 = 3 := by kernel_rfl
/-- A head that came in. -/
theorem head_of {H : Type} {enc : TypeId × Value → H} {w : World} {r : Reach} {b0 : Nat} {sp : Nat → Bool} {v : Value} {d : DataW H} {p : List MemPlace}
    (hv : Value.okWide Try.prog w r b0 26 v) (h : DataW.Trod enc Try.prog w 0 sp true 26 v d p) :
    ∃ (k n : Int) (g : Nat), v = .agg #[.int .i64 k, .int .i64 n, .int .u64 (g : Int)] ∧ (Lit.int .i64 k).wf = true ∧ (Lit.int .i64 n).wf = true ∧ g < 18446744073709551616 := by
  obtain ⟨c0, c1, c2, y0, y1, y2, m, rfl, rfl, rfl, h0, h1, h2⟩ := open_agg3 Try.underlying26 (by kernel_rfl) cells26 hv h
  obtain ⟨k, e0, _, wk⟩ := DataW.trod_int Try.underlying23 h0
  obtain ⟨n, e1, _, wn⟩ := DataW.trod_int Try.underlying3 h1
  obtain ⟨g, e2, _, wg⟩ := DataW.trod_int Try.underlying24 h2
  simp at e0 e1 e2
  subst e0 e1 e2
  have hb : 0 ≤ g ∧ g ≤ 18446744073709551615 := by simpa [Lit.wf, IntKind.min, IntKind.max, IntKind.bits, IntKind.signed] using wg
  exact ⟨k, n, g.toNat, by rw [Int.toNat_of_nonneg hb.1], wk, wn, by omega⟩
end Go.Proofs.Ytafkimhnllnopaa
