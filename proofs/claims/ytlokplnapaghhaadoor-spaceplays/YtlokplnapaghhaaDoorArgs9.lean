/- The arguments: numbers, bytes, lists of numbers, as a walk reads them. -/
import Derived.Test.YtlokplnapaghhaaDoorRows
import Derived.Test.YtlokplnapaghhaaDoorStr
import Derived.Deep.Slices
import Derived.WalkKit
import Derived.ProofKit
import Derived.OpenShut
import Derived.SizedLaws
import Derived.Lib.SmallJoins
namespace Go.Proofs.YtlokplnapaghhaaDoor
open Go.ChangeShapes Go.WideShapes Go.ChangeAt Go.RowKit Go.Deep Go.Joins

theorem cells5 : Tryd.prog.cellsOf 5 = 1 := by kernel_rfl
theorem bytes5 : Tryd.prog.bytesOf 5 = 1 := by kernel_rfl
theorem cellsIn : Tryd.prog.cellsOf 3 = 1 := by kernel_rfl
theorem bytesIn : Tryd.prog.bytesOf 3 = 8 := by kernel_rfl
theorem addr_plain {w : World} {a : Addr} {v : Value} (h : w.cell? a = some v) : ∃ g off, a = ⟨g, off, none⟩ ∧ g < w.heap.size := by
  obtain ⟨g, off, spot⟩ := a
  unfold World.cell? at h
  cases e : w.heap[g]? with
  | none => simp [e] at h
  | some o =>
    cases spot with
    | none => exact ⟨g, off, rfl, (Array.getElem?_eq_some_iff.1 e).1⟩
    | some x => cases o <;> simp [e] at h
theorem u8_in {z : Int} (h : (Lit.int .u8 z).wf = true) : ((UInt8.ofNat z.toNat).toNat : Int) = z := by
  have hb : 0 ≤ z ∧ z ≤ 255 := by simpa [Lit.wf, IntKind.min, IntKind.max, IntKind.bits, IntKind.signed] using h
  rw [UInt8.toNat_ofNat']
  omega
theorem i64_in {z : Int} (h : (Lit.int .i64 z).wf = true) : -9223372036854775808 ≤ z ∧ z ≤ 9223372036854775807 := by
  simpa [Lit.wf, IntKind.min, IntKind.max, IntKind.bits, IntKind.signed] using h
theorem reach_is : reachBytes ≤ 140737488355328 := by decide
/-- Bytes that came in. -/
structure BytesIn (w : World) (v : Value) (bs : List UInt8) : Prop where
  is : ∃ a c, v = .slice a bs.length c ∧ BytesAt w.heap.size w a bs ∧ bs.length ≤ c ∧ (a = none → c = 0)
  short : bs.length ≤ 140737488355328
theorem BytesIn.here {w w' : World} {v : Value} {bs : List UInt8} (h : BytesIn w v bs) (hb : Below w.heap.size w w') : BytesIn w' v bs := by
  obtain ⟨⟨a, c, e, h1, h2⟩, h3⟩ := h
  exact ⟨⟨a, c, e, h1.here hb, h2⟩, h3⟩
/-- Numbers that came in. -/
structure IntsIn (w : World) (v : Value) (L : List Int) : Prop where
  is : ∃ a c, v = .slice a L.length c ∧ ∀ (j : Nat) z, L[j]? = some z → ∃ g off, a = some ⟨g, off, none⟩ ∧ g < w.heap.size ∧ w.cell? ⟨g, off + j, none⟩ = some (.int .i64 z)
  short : L.length ≤ 140737488355328
  fits : ∀ z ∈ L, -9223372036854775808 ≤ z ∧ z ≤ 9223372036854775807
section
variable {H : Type} {enc : TypeId × Value → H} {w : World} {fuel : Nat}
theorem int_in {cs : List Value} {x : DataW H × List MemPlace} (hf : DataW.trod enc Tryd.prog w 0 (fun _ => true) true fuel 3 cs = some x) : ∃ z, cs = [.int .i64 z] ∧ (Lit.int .i64 z).wf = true := by
  obtain ⟨z, e, _, hw⟩ := DataW.trod_int Tryd.underlying3 hf
  exact ⟨z, e, hw⟩
theorem bytes_in {v : Value} {x : DataW H × List MemPlace} (hf : DataW.trod enc Tryd.prog w 0 (fun _ => true) true fuel 37 [v] = some x) (hwt : ∀ n ∈ x.1.weights Tryd.prog 37, n ≤ reachBytes) :
    ∃ k, BytesIn w v k := by
  rcases open_ints Tryd.underlying37 Tryd.underlying5 cells5 hf with ⟨hcs, hx⟩ | ⟨a, len', cap', zs, hcs, _, hl, hm, hz, hx, hcell, hwz⟩
  · simp at hcs
    exact ⟨[], ⟨none, 0, hcs, fun j c hj => by simp at hj, Nat.le_refl _, fun _ => rfl⟩, by decide⟩
  · simp at hcs
    simp only [if_true] at hz
    have hlen : ((zs.take len').map (fun z => UInt8.ofNat z.toNat)).length = len' := by simp; omega
    have hshort : len' ≤ 140737488355328 := by
      subst hx
      have := hwt _ (by simp only [DataW.weights, Tryd.underlying37]; exact List.mem_cons_self ..)
      rw [bytes5] at this
      have hr := reach_is
      simp [Go.ChangeShapes.lits] at this
      omega
    refine ⟨(zs.take len').map (fun z => UInt8.ofNat z.toNat), ⟨⟨some a, cap', by rw [hlen]; exact hcs, fun j c hj => ?_, by rw [hlen]; exact hl, fun h => by cases h⟩, by rw [hlen]; exact hshort⟩⟩
    have hjl : j < len' := by
      have := (List.getElem?_eq_some_iff.1 hj).1
      rw [hlen] at this
      exact this
    have h0 := hcell 0 (by omega)
    have ha : a.add 0 = a := by simp [Addr.add]
    rw [ha] at h0
    obtain ⟨g, off, rfl, hg⟩ := addr_plain h0
    have hcj := hcell j (by omega)
    rw [add_at] at hcj
    refine ⟨g, off, rfl, hg, ?_⟩
    rw [hcj]
    have hzj : zs[j]? = some zs[j] := List.getElem?_eq_getElem (by omega)
    rw [List.getElem?_map, List.getElem?_take, if_pos hjl, hzj] at hj
    simp at hj
    subst hj
    rw [u8_in (hwz _ (List.getElem_mem (by omega)))]
    simp [List.getD, hzj]
theorem ints_in {v : Value} {x : DataW H × List MemPlace} (hf : DataW.trod enc Tryd.prog w 0 (fun _ => true) true fuel 50 [v] = some x) (hwt : ∀ n ∈ x.1.weights Tryd.prog 50, n ≤ reachBytes) :
    ∃ L, IntsIn w v L := by
  rcases open_ints Tryd.underlying50 Tryd.underlying3 cellsIn hf with ⟨hcs, hx⟩ | ⟨a, len', cap', zs, hcs, _, hl, hm, hz, hx, hcell, hwz⟩
  · simp at hcs
    exact ⟨[], ⟨none, 0, hcs, fun j c hj => by simp at hj⟩, by decide, fun z hz => by simp at hz⟩
  · simp at hcs
    simp only [if_true] at hz
    have hlen : (zs.take len').length = len' := by simp; omega
    have hshort : len' ≤ 140737488355328 := by
      subst hx
      have := hwt _ (by simp only [DataW.weights, Tryd.underlying50]; exact List.mem_cons_self ..)
      rw [bytesIn] at this
      have hr := reach_is
      simp [Go.ChangeShapes.lits] at this
      omega
    refine ⟨zs.take len', ⟨some a, cap', by rw [hlen]; exact hcs, fun j z hj => ?_⟩, by rw [hlen]; exact hshort, fun z hz => i64_in (hwz z (List.mem_of_mem_take hz))⟩
    have hjl : j < len' := by
      have := (List.getElem?_eq_some_iff.1 hj).1
      rw [hlen] at this
      exact this
    have h0 := hcell 0 (by omega)
    have ha : a.add 0 = a := by simp [Addr.add]
    rw [ha] at h0
    obtain ⟨g, off, rfl, hg⟩ := addr_plain h0
    have hcj := hcell j (by omega)
    rw [add_at] at hcj
    refine ⟨g, off, rfl, hg, ?_⟩
    rw [hcj]
    have hzj : zs[j]? = some zs[j] := List.getElem?_eq_getElem (by omega)
    rw [List.getElem?_take, if_pos hjl, hzj] at hj
    simp at hj
    subst hj
    simp [List.getD, hzj]
end
end Go.Proofs.YtlokplnapaghhaaDoor
