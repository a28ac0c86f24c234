/- The arguments that are lists of places, and of numbers, as a walk reads them. -/
import Derived.Test.YtphnajphgiinfaaFates
import Derived.Deep.Slices
import Derived.ProofKit
import Derived.SizedLaws
namespace Go.Proofs.Ytphnajphgiinfaa
open Go.RowKit Go.Maps Go.ChangeShapes Go.WideShapes Go.ChangeAt Go.Deep

theorem addr_plain {w : World} {a : Addr} {v : Value} (h : w.cell? a = some v) : ∃ g off, a = ⟨g, off, none⟩ ∧ g < w.heap.size := by
  obtain ⟨g, off, spot⟩ := a
  unfold World.cell? at h
  cases e : w.heap[g]? with
  | none => simp [e] at h
  | some o =>
    cases spot with
    | none => exact ⟨g, off, rfl, (Array.getElem?_eq_some_iff.1 e).1⟩
    | some x => cases o <;> simp [e] at h

theorem add_plain (g off j : Nat) : (⟨g, off, none⟩ : Addr).add j = ⟨g, off + j, none⟩ := by unfold Addr.add; split <;> simp_all

theorem u8_of {z : Int} (h : (Lit.int .u8 z).wf = true) : ((UInt8.ofNat z.toNat).toNat : Int) = z := by
  have hb : 0 ≤ z ∧ z ≤ 255 := by simpa [Lit.wf, IntKind.min, IntKind.max, IntKind.bits, IntKind.signed] using h
  rw [UInt8.toNat_ofNat']
  omega

section
variable {H : Type} {enc : TypeId × Value → H} {w : World} {fuel : Nat} {a0 : Option Addr} {len cap : Nat} {x : DataW H × List MemPlace}

theorem cells5 : Try.prog.cellsOf 5 = 1 := by kernel_rfl
theorem cells3 : Try.prog.cellsOf 3 = 1 := by kernel_rfl
theorem cells29 : Try.prog.cellsOf 29 = 1 := by kernel_rfl
theorem cells31 : Try.prog.cellsOf 31 = 2 := by kernel_rfl
theorem bytes5 : Try.prog.bytesOf 5 = 1 := by kernel_rfl
theorem bytes31 : Try.prog.bytesOf 31 = 32 := by kernel_rfl

theorem bytes_of (hf : DataW.trod enc Try.prog w 0 (fun _ => true) true fuel 29 [.slice a0 len cap] = some x) :
    ∃ bs : List UInt8, bs.length = len ∧ (∀ (j : Nat) c, bs[j]? = some c → ∃ g off, a0 = some ⟨g, off, none⟩ ∧ g < w.heap.size ∧ w.cell? ⟨g, off + j, none⟩ = some (.int .u8 (c.toNat : Int))) ∧ (len = 0 ∨ ∃ n ∈ x.1.weights Try.prog 29, len ≤ n) := by
  rcases open_ints Try.underlying29 Try.underlying5 cells5 hf with ⟨hcs, hx⟩ | ⟨a, len', cap', zs, hcs, _, hl, hm, hz, hx, hcell, hwz⟩
  · simp at hcs
    obtain ⟨_, rfl, _⟩ := hcs
    exact ⟨[], rfl, fun j c hj => by simp at hj, .inl rfl⟩
  · simp at hcs
    obtain ⟨rfl, rfl, rfl⟩ := hcs
    simp only [if_true] at hz
    have hlz : len ≤ zs.length := by omega
    refine ⟨(zs.take len).map (fun z => UInt8.ofNat z.toNat), by simp; omega, fun j c hj => ?_, ?_⟩
    · have hjl : j < len := by
        have := (List.getElem?_eq_some_iff.1 hj).1
        simp at this
        omega
      have h0 := hcell 0 (by omega)
      have ha : a.add 0 = a := by simp [Addr.add]
      rw [ha] at h0
      obtain ⟨g, off, rfl, hg⟩ := addr_plain h0
      have hcj := hcell j (by omega)
      rw [add_plain] at hcj
      refine ⟨g, off, rfl, hg, ?_⟩
      rw [hcj]
      have hzj : zs[j]? = some zs[j] := List.getElem?_eq_getElem (by omega)
      rw [List.getElem?_map, List.getElem?_take, if_pos hjl, hzj] at hj
      simp at hj
      subst hj
      rw [u8_of (hwz _ (List.getElem_mem (by omega)))]
      simp [List.getD, hzj]
    · right
      subst hx
      refine ⟨_, by simp only [DataW.weights, Try.underlying29]; exact List.mem_cons_self .., ?_⟩
      rw [bytes5]
      simp [lits]
      omega

theorem ints_of (hf : DataW.trod enc Try.prog w 0 (fun _ => true) true fuel 24 [.slice a0 len cap] = some x) :
    ∃ zs : List Int, zs.length = len ∧ ∀ (j : Nat) f, zs[j]? = some f → FateAt w.heap.size w a0 j f := by
  rcases open_ints Try.underlying24 Try.underlying3 cells3 hf with ⟨hcs, hx⟩ | ⟨a, len', cap', zs, hcs, _, hl, hm, hz, hx, hcell, hwz⟩
  · simp at hcs
    obtain ⟨_, rfl, _⟩ := hcs
    exact ⟨[], rfl, fun j c hj => by simp at hj⟩
  · simp at hcs
    obtain ⟨rfl, rfl, rfl⟩ := hcs
    simp only [if_true] at hz
    refine ⟨zs.take len, by simp; omega, fun j f hj => ?_⟩
    have hjl : j < len := by
      have := (List.getElem?_eq_some_iff.1 hj).1
      simp at this
      omega
    have h0 := hcell 0 (by omega)
    have ha : a.add 0 = a := by simp [Addr.add]
    rw [ha] at h0
    obtain ⟨g, off, rfl, hg⟩ := addr_plain h0
    have hcj := hcell j (by omega)
    rw [add_plain] at hcj
    have hzj : zs[j]? = some zs[j] := List.getElem?_eq_getElem (by omega)
    rw [List.getElem?_take, if_pos hjl, hzj] at hj
    simp at hj
    subst hj
    refine ⟨hwz _ (List.getElem_mem (by omega)), g, off, rfl, hg, ?_⟩
    rw [hcj]
    simp [List.getD, hzj]

theorem weightsAll_mem {P : Program} {e : TypeId} : ∀ {l : List (DataW H)} {d : DataW H}, d ∈ l → ∀ {n : Nat}, n ∈ d.weights P e → n ∈ DataW.weightsAll P e l
  | [], _, h, _, _ => by cases h
  | x :: r, d, h, n, hn => by
    simp only [DataW.weightsAll, List.mem_append]
    rcases List.mem_cons.1 h with rfl | h
    · exact .inl hn
    · exact .inr (weightsAll_mem h hn)

theorem places_of (hf : DataW.trod enc Try.prog w 0 (fun _ => true) true fuel 23 [.slice a0 len cap] = some x) (hwt : ∀ n ∈ x.1.weights Try.prog 23, n ≤ reachBytes) :
    ∃ L : List (Int × List UInt8), L.length = len ∧ len ≤ 140737488355328 ∧ ∀ (i : Nat) q, L[i]? = some q → PlaceAt w.heap.size w a0 i q := by
  rcases open_slice Try.underlying23 hf with ⟨hcs, hx⟩ | ⟨a, len', cap', m, n, D, Pl, hcs, _, hl, hm, hmm, hx, hel⟩
  · simp at hcs
    obtain ⟨_, rfl, _⟩ := hcs
    exact ⟨[], rfl, Nat.zero_le _, fun j c hj => by simp at hj⟩
  · simp at hcs
    obtain ⟨rfl, rfl, rfl⟩ := hcs
    simp only [if_true] at hmm
    subst hmm
    simp only [cells31] at hel
    by_cases hlen0 : len = 0
    · exact ⟨[], hlen0.symm, by omega, fun j c hj => by simp at hj⟩
    obtain ⟨g, off, rfl, hg⟩ : ∃ g off, a = ⟨g, off, none⟩ ∧ g < w.heap.size := by
      obtain ⟨cs0, hc0, _⟩ := hel 0 (by omega)
      obtain ⟨_, hl0, hcc⟩ := World.cells?_some hc0
      have h0 := hcc 0 (by decide)
      have ha : (a.add (0 * 2)).add 0 = a := by simp [Addr.add]
      rw [ha] at h0
      obtain ⟨c, hc⟩ : ∃ c, cs0[0]? = some c := ⟨cs0[0], List.getElem?_eq_getElem (by omega)⟩
      rw [hc] at h0
      exact addr_plain h0
    have hone : ∀ i, i < len → ∃ q : Int × List UInt8, PlaceAt w.heap.size w (some ⟨g, off, none⟩) i q := by
      intro i hi
      obtain ⟨cs', hc', ht'⟩ := hel i (by omega)
      obtain ⟨y0, y1, n', hy, hlen2, hy0, hy1⟩ := trod_struct2 Try.underlying31 ht'
      rw [cells31] at hlen2
      obtain ⟨c0, c1, rfl⟩ : ∃ c0 c1, cs' = [c0, c1] := by
        rcases cs' with _ | ⟨c0, _ | ⟨c1, _ | ⟨c2, r⟩⟩⟩
        · simp at hlen2
        · simp at hlen2
        · exact ⟨c0, c1, rfl⟩
        · simp at hlen2
      have hcs := (World.cells?_some hc').2.2
      have hcell0 := hcs 0 (by decide)
      have hcell1 := hcs 1 (by decide)
      rw [add_plain, add_plain] at hcell0 hcell1
      simp only [List.getElem?_cons_zero, List.getElem?_cons_succ] at hcell0 hcell1
      dsimp only at hy0 hy1
      rw [cells3] at hy0
      rw [cells29] at hy1
      simp only [List.drop_zero, List.take_succ_cons, List.take_zero, List.drop_succ_cons] at hy0 hy1
      obtain ⟨bk, e0, _, hbwf⟩ := DataW.trod_int Try.underlying3 hy0
      obtain rfl : c0 = .int .i64 bk := by simpa using e0
      obtain ⟨av, ln, capv, rfl⟩ : ∃ av ln capv, c1 = .slice av ln capv := by
        rcases open_ints Try.underlying29 Try.underlying5 cells5 hy1 with ⟨h, _⟩ | ⟨a', l', c', _, h, _⟩
        · exact ⟨_, _, _, by simpa using h⟩
        · exact ⟨_, _, _, by simpa using h⟩
      obtain ⟨bs, hbl, hbc, hbw⟩ := bytes_of hy1
      have hmem : ∀ n ∈ y1.1.weights Try.prog 29, n ≤ reachBytes := fun n hn => hwt n (by
        rw [hx]
        simp only [DataW.weights, Try.underlying23]
        refine List.mem_cons_of_mem _ (List.mem_append_left _ (weightsAll_mem (d := D i) (List.mem_map.2 ⟨i, List.mem_range.2 hi, rfl⟩) ?_))
        have e : D i = .agg [y0.1, y1.1] := congrArg Prod.fst hy
        rw [e]
        simp only [DataW.weights, Try.underlying31]
        exact DataW.weights_mem_each (j := 1) (t := 29) rfl rfl n hn)
      refine ⟨(bk, bs), hbwf, ?_, g, off, av, capv, rfl, hg, ?_, ?_, hbc⟩
      · rcases hbw with h0 | ⟨n, hn, hle⟩
        · simp only [hbl, h0]; exact Nat.zero_le _
        · have := hmem n hn
          have hr : reachBytes ≤ 140737488355328 := by decide
          simp only [hbl]
          omega
      · exact hcell0
      · simp only [hbl]; exact hcell1
    have hch : ∀ i : Fin len, ∃ q : Int × List UInt8, PlaceAt w.heap.size w (some ⟨g, off, none⟩) i q := fun i => hone i i.2
    refine ⟨List.ofFn (fun i : Fin len => (hch i).choose), by simp, ?_, fun i q hq => ?_⟩
    · have := hwt ((len + (m - len)) * Try.prog.bytesOf 31) (by
        rw [hx]
        simp only [DataW.weights, Try.underlying23, List.length_map, List.length_range]
        exact List.mem_cons_self ..)
      rw [bytes31] at this
      have hr : reachBytes ≤ 140737488355328 := by decide
      omega
    · obtain ⟨h1, h2⟩ := List.getElem?_eq_some_iff.1 hq
      simp at h1 h2
      rw [← h2]
      exact (hch ⟨i, h1⟩).choose_spec
end
end Go.Proofs.Ytphnajphgiinfaa
