/- The arguments: keys, ranges, lists of ranges, as a walk reads them. -/
import Derived.Test.YtgifnaahahfhbaaRows
import Derived.Test.YtgifnaahahfhbaaCut
import Derived.Deep.Slices
import Derived.WalkKit
import Derived.ProofKit
import Derived.OpenShut
import Derived.SizedLaws
import Derived.Lib.SmallJoins
namespace Go.Proofs.Ytgifnaahahfhbaa
open Go.ChangeShapes Go.WideShapes Go.ChangeAt Go.RowKit Go.Deep Go.Joins

theorem own_knob : ownKnob Try.prog.godebug = none := by kernel_rfl
theorem laid_out : laidOutB Try.prog = true := by kernel_rfl
theorem cells5 : Try.prog.cellsOf 5 = 1 := by kernel_rfl
theorem bytes5 : Try.prog.bytesOf 5 = 1 := by kernel_rfl
theorem cells23 : Try.prog.cellsOf 39 = 1 := by kernel_rfl
theorem cells4 : Try.prog.cellsOf 4 = 1 := by kernel_rfl
theorem cells36 : Try.prog.cellsOf 49 = 3 := by kernel_rfl
theorem cellsE : Try.prog.cellsOf 47 = 2 := by kernel_rfl
theorem bytesE48 : Try.prog.bytesOf 47 = 48 := by kernel_rfl
theorem addr_plain {w : World} {a : Addr} {v : Value} (h : w.cell? a = some v) : ∃ g off, a = ⟨g, off, none⟩ ∧ g < w.heap.size := by
  obtain ⟨g, off, spot⟩ := a
  unfold World.cell? at h
  cases e : w.heap[g]? with
  | none => simp [e] at h
  | some o =>
    cases spot with
    | none => exact ⟨g, off, rfl, (Array.getElem?_eq_some_iff.1 e).1⟩
    | some x => cases o <;> simp [e] at h
theorem u8_of {z : Int} (h : (Lit.int .u8 z).wf = true) : ((UInt8.ofNat z.toNat).toNat : Int) = z := by
  have hb : 0 ≤ z ∧ z ≤ 255 := by simpa [Lit.wf, IntKind.min, IntKind.max, IntKind.bits, IntKind.signed] using h
  rw [UInt8.toNat_ofNat']
  omega
theorem reach_is : reachBytes ≤ 140737488355328 := by decide

theorem pick_list {α : Type} (P : Nat → α → Prop) (n : Nat) (h : ∀ i, i < n → ∃ e, P i e) : ∃ L : List α, L.length = n ∧ ∀ i e, L[i]? = some e → P i e := by
  induction n with
  | zero => exact ⟨[], rfl, fun i e he => by simp at he⟩
  | succ n ih =>
    obtain ⟨L, hl, hL⟩ := ih fun i hi => h i (by omega)
    obtain ⟨e, he⟩ := h n (by omega)
    refine ⟨L ++ [e], by simp [hl], fun i x hx => ?_⟩
    by_cases hi : i < L.length
    · rw [List.getElem?_append_left hi] at hx; exact hL i x hx
    · rw [List.getElem?_append_right (by omega)] at hx
      have hz := (List.getElem?_eq_some_iff.1 hx).1
      simp at hz
      have e1 : i = n := by omega
      subst e1
      rw [hl] at hx
      simp at hx
      rw [← hx]; exact he
theorem weights_in {H : Type} (e : TypeId) (l : List (DataW H)) (d : DataW H) (hd : d ∈ l) (n : Nat) (hn : n ∈ d.weights Try.prog e) : n ∈ DataW.weightsAll Try.prog e l := by
  induction l with
  | nil => simp at hd
  | cons x l ih =>
    simp only [DataW.weightsAll]
    rcases List.mem_cons.1 hd with rfl | h
    · exact List.mem_append_left _ hn
    · exact List.mem_append_right _ (ih h)
section
variable {H : Type} {enc : TypeId × Value → H} {w : World} {fuel : Nat}
/-- A key that came in. -/
theorem key_in {cs : List Value} {x : DataW H × List MemPlace} (hf : DataW.trod enc Try.prog w 0 (fun _ => true) true fuel 39 cs = some x) (hwt : ∀ n ∈ x.1.weights Try.prog 39, n ≤ reachBytes) :
    ∃ v k, cs = [v] ∧ KeyAt w v k := by
  rcases open_ints Try.underlying39 Try.underlying5 cells5 hf with ⟨hcs, hx⟩ | ⟨a, len', cap', zs, hcs, _, hl, hm, hz, hx, hcell, hwz⟩
  · exact ⟨_, [], hcs, KeyAt.nil w⟩
  · simp only [if_true] at hz
    have hlen : ((zs.take len').map (fun z => UInt8.ofNat z.toNat)).length = len' := by simp; omega
    have hshort : len' ≤ 140737488355328 := by
      subst hx
      have := hwt _ (by simp only [DataW.weights, Try.underlying39]; exact List.mem_cons_self ..)
      rw [bytes5] at this
      have hr := reach_is
      simp [Go.ChangeShapes.lits] at this
      omega
    refine ⟨_, (zs.take len').map (fun z => UInt8.ofNat z.toNat), hcs, ⟨⟨some a, cap', by rw [hlen], fun j c hj => ?_, by rw [hlen]; exact hl, fun h => by cases h⟩, by rw [hlen]; exact hshort⟩⟩
    have hjl : j < len' := by
      have := (List.getElem?_eq_some_iff.1 hj).1
      rw [hlen] at this
      exact this
    have h0 := hcell 0 (by omega)
    have ha : a.add 0 = a := by simp [Addr.add]
    rw [ha] at h0
    obtain ⟨g, off, rfl, hg⟩ := addr_plain h0
    have hcj := hcell j (by omega)
    rw [add_at] at hcj
    refine ⟨g, off, rfl, hg, ?_⟩
    rw [hcj]
    have hzj : zs[j]? = some zs[j] := List.getElem?_eq_getElem (by omega)
    rw [List.getElem?_map, List.getElem?_take, if_pos hjl, hzj] at hj
    simp at hj
    subst hj
    rw [u8_of (hwz _ (List.getElem_mem (by omega)))]
    simp [List.getD, hzj]
/-- A range's three cells that came in. -/
theorem three_in {cs : List Value} {x : DataW H × List MemPlace} (hf : DataW.trod enc Try.prog w 0 (fun _ => true) true fuel 49 cs = some x) (hwt : ∀ n ∈ x.1.weights Try.prog 49, n ≤ reachBytes) :
    ∃ v0 v1, ∃ r : Rg, cs = [v0, v1, .bool r.all] ∧ KeyAt w v0 r.lo ∧ KeyAt w v1 r.hi := by
  obtain ⟨y0, y1, y2, n, hx, hlen3, h0, h1, h2⟩ := trod_struct3 Try.underlying49 hf
  rw [cells36] at hlen3
  obtain ⟨c0, c1, c2, rfl⟩ : ∃ c0 c1 c2, cs = [c0, c1, c2] := by
    rcases cs with _ | ⟨c0, _ | ⟨c1, _ | ⟨c2, _ | ⟨c3, r⟩⟩⟩⟩
    all_goals first | exact ⟨_, _, _, rfl⟩ | (simp at hlen3; done) | (exfalso; simp at hlen3; omega)
  have t0 : DataW.trod enc Try.prog w 0 (fun _ => true) true n 39 [c0] = some y0 := by
    have := h0
    simp only [cells23, List.drop_zero, List.take_succ_cons, List.take_zero] at this
    exact this
  have t1 : DataW.trod enc Try.prog w 0 (fun _ => true) true n 39 [c1] = some y1 := by
    have := h1
    simp only [cells23, List.drop_succ_cons, List.drop_zero, List.take_succ_cons, List.take_zero] at this
    exact this
  have t2 : DataW.trod enc Try.prog w 0 (fun _ => true) true n 4 [c2] = some y2 := by
    have := h2
    simp only [cells4, List.drop_succ_cons, List.drop_zero, List.take_succ_cons, List.take_zero] at this
    exact this
  subst hx
  have hw : DataW.weights Try.prog 49 (.agg [y0.1, y1.1, y2.1]) = y0.1.weights Try.prog 39 ++ (y1.1.weights Try.prog 39 ++ (y2.1.weights Try.prog 4 ++ [])) := by
    simp only [DataW.weights, Try.underlying49]
    rfl
  rw [hw] at hwt
  obtain ⟨v0, k0, e0, hk0⟩ := key_in t0 (fun m hm => hwt m (List.mem_append_left _ hm))
  obtain ⟨v1, k1, e1, hk1⟩ := key_in t1 (fun m hm => hwt m (List.mem_append_right _ (List.mem_append_left _ hm)))
  obtain ⟨b, e2, _⟩ := DataW.trod_bool Try.underlying4 t2
  simp at e0 e1 e2
  subst e0 e1 e2
  exact ⟨c0, c1, ⟨k0, k1, b⟩, rfl, hk0, hk1⟩
/-- A range that came in. -/
theorem range_in {r : Reach} {b0 : Nat} {v : Value} {d : DataW H} {p : List MemPlace} (hv : Value.okWide Try.prog w r b0 49 v) (h : DataW.Trod enc Try.prog w 0 (fun _ => true) true 49 v d p) (hwt : ∀ n ∈ d.weights Try.prog 49, n ≤ reachBytes) :
    ∃ rg, RangeAt w v rg := by
  obtain ⟨cs, rfl, hsz⟩ := okWide_struct Try.underlying49 hv
  obtain ⟨fuel, hf⟩ := h
  obtain ⟨v0, v1, r, he, h0, h1⟩ := three_in (x := (d, p)) hf hwt
  have : cs = #[v0, v1, .bool r.all] := by
    have h1 : cs.toList = [v0, v1, .bool r.all] := by simpa [Value.cells] using he
    cases cs
    simp_all
  subst this
  exact ⟨r, _, _, rfl, h0, h1⟩
/-- An entry's two cells that came in. -/
theorem two_in {cs : List Value} {x : DataW H × List MemPlace} (hf : DataW.trod enc Try.prog w 0 (fun _ => true) true fuel 47 cs = some x) (hwt : ∀ n ∈ x.1.weights Try.prog 47, n ≤ reachBytes) :
    ∃ e : It, cs = e.cells ∧ e.Ok w.heap.size w := by
  obtain ⟨y0, y1, n, hx, hlen3, h0, h1⟩ := trod_struct2 Try.underlying47 hf
  rw [cellsE] at hlen3
  obtain ⟨c0, c1, rfl⟩ : ∃ c0 c1, cs = [c0, c1] := by
    rcases cs with _ | ⟨c0, _ | ⟨c1, _ | ⟨c2, r⟩⟩⟩
    all_goals first | exact ⟨_, _, rfl⟩ | (simp at hlen3; done) | (exfalso; simp at hlen3; omega)
  have t0 : DataW.trod enc Try.prog w 0 (fun _ => true) true n 39 [c0] = some y0 := by
    have := h0
    simp only [cells23, List.drop_zero, List.take_succ_cons, List.take_zero] at this
    exact this
  have t1 : DataW.trod enc Try.prog w 0 (fun _ => true) true n 39 [c1] = some y1 := by
    have := h1
    simp only [cells23, List.drop_succ_cons, List.drop_zero, List.take_succ_cons, List.take_zero] at this
    exact this
  subst hx
  have hw : DataW.weights Try.prog 47 (.agg [y0.1, y1.1]) = y0.1.weights Try.prog 39 ++ (y1.1.weights Try.prog 39 ++ []) := by
    simp only [DataW.weights, Try.underlying47]
    rfl
  rw [hw] at hwt
  obtain ⟨v0, k0, e0, hk0⟩ := key_in t0 (fun m hm => hwt m (List.mem_append_left _ hm))
  obtain ⟨v1, k1, e1, hk1⟩ := key_in t1 (fun m hm => hwt m (List.mem_append_right _ (List.mem_append_left _ hm)))
  simp at e0 e1
  subst e0 e1
  exact ⟨⟨c0, c1, ⟨k0, k1⟩⟩, rfl, ⟨hk0.is, hk0.short⟩, ⟨hk1.is, hk1.short⟩⟩
/-- A list of entries that came in. -/
theorem list_in {a0 : Option Addr} {len cap : Nat} {x : DataW H × List MemPlace} (hf : DataW.trod enc Try.prog w 0 (fun _ => true) true fuel 25 [.slice a0 len cap] = some x) (hwt : ∀ n ∈ x.1.weights Try.prog 25, n ≤ reachBytes) :
    ∃ L : List It, ListAt w.heap.size w (.slice a0 len cap) L := by
  rcases open_slice Try.underlying25 hf with ⟨hcs, hx⟩ | ⟨a, len', cap', m, n, D, Pl, hcs, _, hl, hm, hmm, hx, hel⟩
  · simp at hcs
    obtain ⟨rfl, rfl, rfl⟩ := hcs
    exact ⟨[], ⟨none, 0, rfl, Nat.le_refl _, fun _ => rfl, fun j u hj => by simp [flat] at hj⟩, by decide, fun e he => by simp at he⟩
  · simp at hcs
    obtain ⟨rfl, rfl, rfl⟩ := hcs
    simp only [if_true] at hmm
    subst hmm
    simp only [cellsE] at hel
    have hone : ∀ i, i < len → ∃ e : It, e.Ok w.heap.size w ∧ w.cell? (a.add (i * 2)) = some e.v1 ∧ w.cell? ((a.add (i * 2)).add 1) = some e.v2 := by
      intro i hi
      obtain ⟨cs', hc', ht'⟩ := hel i (by omega)
      obtain ⟨e, he, hok⟩ := two_in ht' (fun k hk => by
        apply hwt
        rw [hx]
        simp only [DataW.weights, Try.underlying25]
        refine List.mem_cons_of_mem _ (List.mem_append_left _ (weights_in _ _ (D i) (List.mem_map.2 ⟨i, List.mem_range.2 hi, rfl⟩) k hk)))
      have hcs := (World.cells?_some hc').2.2
      rw [he] at hcs
      have f0 := hcs 0 (by decide)
      have f1 := hcs 1 (by decide)
      have ha : (a.add (i * 2)).add 0 = a.add (i * 2) := by simp [Addr.add]
      rw [ha] at f0
      exact ⟨e, hok, f0, f1⟩
    obtain ⟨L, hL, hLP⟩ := pick_list _ len hone
    subst hL
    refine ⟨L, ⟨some a, m, rfl, hl, fun h => (by cases h), fun j u hj => ?_⟩, ?_, fun e he => ?_⟩
    · have hjl := (List.getElem?_eq_some_iff.1 hj).1
      rw [flat_length] at hjl
      obtain ⟨i, k, hk, rfl⟩ : ∃ i k, k < 2 ∧ j = i * 2 + k := ⟨j / 2, j % 2, Nat.mod_lt _ (by decide), by omega⟩
      obtain ⟨e, hei⟩ : ∃ e, L[i]? = some e := ⟨_, List.getElem?_eq_getElem (by omega)⟩
      obtain ⟨_, f0, f1⟩ := hLP i e hei
      obtain ⟨g0, g1⟩ := flat_get L i e hei
      obtain ⟨g, off, rfl, hg⟩ : ∃ g off, a = ⟨g, off, none⟩ ∧ g < w.heap.size := by
        obtain ⟨z, hz⟩ : ∃ z, L[0]? = some z := ⟨_, List.getElem?_eq_getElem (by omega)⟩
        have h0 := (hLP 0 z hz).2.1
        have ha : a.add (0 * 2) = a := by simp [Addr.add]
        rw [ha] at h0
        exact addr_plain h0
      rw [add_at] at f0
      rw [add_at, add_at] at f1
      refine ⟨g, off, rfl, hg, ?_⟩
      match k, hk with
      | 0, _ => rw [Nat.add_zero, g0] at hj; cases hj; exact f0
      | 1, _ => rw [g1] at hj; cases hj; rw [← Nat.add_assoc]; exact f1
    · have := hwt _ (by rw [hx]; simp only [DataW.weights, Try.underlying25]; exact List.mem_cons_self ..)
      rw [bytesE48] at this
      have hr := reach_is
      simp at this
      omega
    · obtain ⟨i, hi⟩ := List.getElem?_of_mem he
      exact (hLP i e hi).1
end
end Go.Proofs.Ytgifnaahahfhbaa
