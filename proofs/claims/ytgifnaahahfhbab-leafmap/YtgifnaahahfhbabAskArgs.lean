/- The argument Ask; pick, sizes. -/
import Derived.Test.YtgifnaahahfhbabArgs
import Derived.Test.YtgifnaahahfhbabWeight
namespace Go.Proofs.Ytgifnaahahfhbab
open Go.ChangeShapes Go.WideShapes Go.ChangeAt Go.RowKit Go.Deep Go.Joins

/-- What is asked. -/
structure Asked where
  size : Int
  pos : Int
  vl : Value
  L : List It
  e : It
  r1 : Value
  r2 : Value
  r : Rg
  vb : Value
  b : Key
  vm : Value
  more : Key
  vk : Value
  key : Key
def Asked.cells (x : Asked) : Array Value := #[.int .i64 x.size, .int .i64 x.pos, x.vl, x.e.v1, x.e.v2, x.r1, x.r2, .bool x.r.all, x.vb, x.vm, x.vk]
structure Asked.Ok (w : World) (x : Asked) : Prop where
  size : (Lit.int .i64 x.size).wf = true
  pos : (Lit.int .i64 x.pos).wf = true
  L : ListAt w.heap.size w x.vl x.L
  e : x.e.Ok w.heap.size w
  r1 : KeyAt w x.r1 x.r.lo
  r2 : KeyAt w x.r2 x.r.hi
  b : KeyAt w x.vb x.b
  more : KeyAt w x.vm x.more
  key : KeyAt w x.vk x.key

theorem cells22 : Try.prog.cellsOf 22 = 1 := by kernel_rfl
theorem cells3 : Try.prog.cellsOf 3 = 1 := by kernel_rfl
theorem cellsA : Try.prog.cellsOf 29 = 11 := by kernel_rfl
section
variable {H : Type} {enc : TypeId × Value → H} {w : World} {fuel : Nat}
theorem trod_struct8 {P : Program} {w : World} {base : Nat} {spare : Nat → Bool} {held : Bool} {t : TypeId} {f0 f1 f2 f3 f4 f5 f6 f7 : Field} {fuel : Nat} {cs : List Value} {x : DataW H × List MemPlace} (ht : P.underlying t = some (.struct #[f0, f1, f2, f3, f4, f5, f6, f7])) (h : DataW.trod enc P w base spare held fuel t cs = some x) :
    ∃ y0 y1 y2 y3 y4 y5 y6 y7 n, x.1 = .agg [y0.1, y1.1, y2.1, y3.1, y4.1, y5.1, y6.1, y7.1] ∧ cs.length = P.cellsOf t ∧ DataW.trod enc P w base spare held n f0.type ((cs.drop f0.offset).take (P.cellsOf f0.type)) = some y0 ∧
      DataW.trod enc P w base spare held n f1.type ((cs.drop f1.offset).take (P.cellsOf f1.type)) = some y1 ∧ DataW.trod enc P w base spare held n f2.type ((cs.drop f2.offset).take (P.cellsOf f2.type)) = some y2 ∧
      DataW.trod enc P w base spare held n f3.type ((cs.drop f3.offset).take (P.cellsOf f3.type)) = some y3 ∧ DataW.trod enc P w base spare held n f4.type ((cs.drop f4.offset).take (P.cellsOf f4.type)) = some y4 ∧
      DataW.trod enc P w base spare held n f5.type ((cs.drop f5.offset).take (P.cellsOf f5.type)) = some y5 ∧ DataW.trod enc P w base spare held n f6.type ((cs.drop f6.offset).take (P.cellsOf f6.type)) = some y6 ∧
      DataW.trod enc P w base spare held n f7.type ((cs.drop f7.offset).take (P.cellsOf f7.type)) = some y7 := by
  obtain ⟨xs, n, _, rfl, hl, hlen, hf⟩ := DataW.trod_struct ht h
  match xs, hlen with
  | [y0, y1, y2, y3, y4, y5, y6, y7], _ => exact ⟨y0, y1, y2, y3, y4, y5, y6, y7, n, by simp, hl, by simpa using hf 0 f0 rfl, by simpa using hf 1 f1 rfl, by simpa using hf 2 f2 rfl, by simpa using hf 3 f3 rfl, by simpa using hf 4 f4 rfl, by simpa using hf 5 f5 rfl, by simpa using hf 6 f6 rfl, by simpa using hf 7 f7 rfl⟩
theorem int_in {cs : List Value} {x : DataW H × List MemPlace} (hf : DataW.trod enc Try.prog w 0 (fun _ => true) true fuel 3 cs = some x) : ∃ z, cs = [.int .i64 z] ∧ (Lit.int .i64 z).wf = true := by
  obtain ⟨z, e, _, hw⟩ := DataW.trod_int Try.underlying3 hf
  exact ⟨z, e, hw⟩
theorem slice_in {c : Value} {x : DataW H × List MemPlace} (hf : DataW.trod enc Try.prog w 0 (fun _ => true) true fuel 22 [c] = some x) : ∃ a l p, c = .slice a l p := by
  rcases open_slice Try.underlying22 hf with ⟨hcs, _⟩ | ⟨a, l, p, m, n, D, Pl, hcs, _⟩
  · simp at hcs; exact ⟨_, _, _, hcs⟩
  · simp at hcs; exact ⟨_, _, _, hcs⟩
/-- What is asked, as it came in. -/
theorem ask_in {r : Reach} {b0 : Nat} {v : Value} {d : DataW H} {p : List MemPlace} (hv : Value.okWide Try.prog w r b0 29 v) (h : DataW.Trod enc Try.prog w 0 (fun _ => true) true 29 v d p) (hwt : ∀ n ∈ d.weights Try.prog 29, n ≤ reachBytes) :
    ∃ x : Asked, v = .agg x.cells ∧ x.Ok w := by
  obtain ⟨cs, rfl, hsz⟩ := okWide_struct Try.underlying29 hv
  obtain ⟨fuel, hf⟩ := h
  obtain ⟨y0, y1, y2, y3, y4, y5, y6, y7, n, hx, hlen, h0, h1, h2, h3, h4, h5, h6, h7⟩ := trod_struct8 (x := (d, p)) Try.underlying29 hf
  rw [cellsA] at hlen
  have hx' : d = .agg [y0.1, y1.1, y2.1, y3.1, y4.1, y5.1, y6.1, y7.1] := hx
  subst hx'
  obtain ⟨l⟩ := cs
  have hl : l.length = 11 := by simpa [Value.cells] using hlen
  match l, hl with
  | [c0, c1, c2, c3, c4, c5, c6, c7, c8, c9, c10], _ =>
    simp only [Value.cells, cells3, cells22, cellsE, cells36, cells23, List.drop_succ_cons, List.drop_zero, List.take_succ_cons, List.take_zero] at h0 h1 h2 h3 h4 h5 h6 h7
    have hw : DataW.weights Try.prog 29 (.agg [y0.1, y1.1, y2.1, y3.1, y4.1, y5.1, y6.1, y7.1]) = y0.1.weights Try.prog 3 ++ (y1.1.weights Try.prog 3 ++ (y2.1.weights Try.prog 22 ++ (y3.1.weights Try.prog 25 ++ (y4.1.weights Try.prog 27 ++ (y5.1.weights Try.prog 23 ++ (y6.1.weights Try.prog 23 ++ (y7.1.weights Try.prog 23 ++ []))))))) := by
      simp only [DataW.weights, Try.underlying29]
      rfl
    rw [hw] at hwt
    obtain ⟨z0, e0, hz0⟩ := int_in h0
    obtain ⟨z1, e1, hz1⟩ := int_in h1
    obtain ⟨a2, l2, p2, e2⟩ := slice_in h2
    subst e2
    obtain ⟨L, hL⟩ := list_in h2 (fun m hm => hwt m (List.mem_append_right _ (List.mem_append_right _ (List.mem_append_left _ hm))))
    obtain ⟨e, he, hok⟩ := two_in h3 (fun m hm => hwt m (List.mem_append_right _ (List.mem_append_right _ (List.mem_append_right _ (List.mem_append_left _ hm)))))
    obtain ⟨r1, r2, r, hr, hr1, hr2⟩ := three_in h4 (fun m hm => hwt m (List.mem_append_right _ (List.mem_append_right _ (List.mem_append_right _ (List.mem_append_right _ (List.mem_append_left _ hm))))))
    obtain ⟨vb, b, eb, hb⟩ := key_in h5 (fun m hm => hwt m (List.mem_append_right _ (List.mem_append_right _ (List.mem_append_right _ (List.mem_append_right _ (List.mem_append_right _ (List.mem_append_left _ hm)))))))
    obtain ⟨vm, mo, em, hm⟩ := key_in h6 (fun m hm => hwt m (List.mem_append_right _ (List.mem_append_right _ (List.mem_append_right _ (List.mem_append_right _ (List.mem_append_right _ (List.mem_append_right _ (List.mem_append_left _ hm))))))))
    obtain ⟨vk, k, ek, hk⟩ := key_in h7 (fun m hm => hwt m (List.mem_append_right _ (List.mem_append_right _ (List.mem_append_right _ (List.mem_append_right _ (List.mem_append_right _ (List.mem_append_right _ (List.mem_append_right _ (List.mem_append_left _ hm)))))))))
    simp [It.cells] at e0 e1 he hr eb em ek
    obtain ⟨rfl, rfl⟩ := he
    obtain ⟨rfl, rfl, rfl⟩ := hr
    subst e0 e1 eb em ek
    exact ⟨⟨z0, z1, .slice a2 l2 p2, L, e, c5, c6, r, c8, b, c9, mo, c10, k⟩, rfl, hz0, hz1, hL, hok, hr1, hr2, hb, hm, hk⟩
end
/-- The block of what is asked. -/
structure ABox (w : World) (b : Nat) (x : Asked) : Prop where
  row : w.heap[b]? = some (.cells x.cells 29 (0, 0))
theorem ABox.lt {w : World} {b : Nat} {x : Asked} (h : ABox w b x) : b < w.heap.size := (Array.getElem?_eq_some_iff.1 h.row).1
theorem ABox.here {w w' : World} {b : Nat} {x : Asked} (h : ABox w b x) (hb : Below w.heap.size w w') : ABox w' b x := ⟨by rw [hb.block b h.lt]; exact h.row⟩
theorem ABox.cell {w : World} {b : Nat} {x : Asked} (h : ABox w b x) (i : Nat) (v : Value) (hv : x.cells[i]? = some v) : w.cell? ⟨b, i, none⟩ = some v := by rw [row_cell h.row]; exact hv
theorem wf_i64 {z : Int} (h : (Lit.int .i64 z).wf = true) : -9223372036854775808 ≤ z ∧ z ≤ 9223372036854775807 := by
  simpa [Lit.wf, IntKind.min, IntKind.max, IntKind.bits, IntKind.signed] using h

set_option maxRecDepth 100000 in
theorem pick_any (w : World) (c : Int) (n : Nat) (h1 : -9223372036854775808 ≤ c ∧ c ≤ 9223372036854775807) (hn : 0 < n) (hn2 : n ≤ 140737488355328) :
    Calls Try.prog 12 #[.int .i64 c, .int .i64 n] w fun e w' => (∃ i : Nat, i < n ∧ e = .returned (.int .i64 i)) ∧ ∃ q, w' = w.drewN q := by
  have hn3 : ¬ (n : Int) = 0 := by omega
  by_cases hc : c < 0
  · obtain ⟨m, hm⟩ : ∃ m : Nat, -(c + 1) = (m : Int) := ⟨(-(c + 1)).toNat, by omega⟩
    have hmm : (m : Int) ≤ 9223372036854775807 := by omega
    have hd : (m : Int).tmod (n : Int) = ((m % n : Nat) : Int) := by simp [Int.tmod]
    have hl := Nat.mod_lt m hn
    go_enter Try.func12, Try.ntmps12
    go_wp2
    go_ret
    exact ⟨⟨m % n, hl, ret_int (by simp)⟩, 0, rfl⟩
  · obtain ⟨m, rfl⟩ : ∃ m : Nat, c = (m : Int) := ⟨c.toNat, by omega⟩
    have hd : (m : Int).tmod (n : Int) = ((m % n : Nat) : Int) := by simp [Int.tmod]
    have hl := Nat.mod_lt m hn
    go_enter Try.func12, Try.ntmps12
    go_wp2
    go_ret
    exact ⟨⟨m % n, hl, ret_int (by simp)⟩, 0, rfl⟩
set_option maxRecDepth 100000 in
theorem sizes_any (w : World) (c : Int) (h1 : -9223372036854775808 ≤ c ∧ c ≤ 9223372036854775807) :
    Calls Try.prog 7 #[.int .i64 c] w fun e w' => (∃ z, Sized z ∧ e = .returned (.int .i64 z)) ∧ ∃ q, w' = w.drewN q := by
  have HP := pick_any w c 4 h1 (by decide) (by decide)
  go_enter Try.func7, Try.ntmps7
  go_wp2_with fail
  refine HP.mono ?_
  rintro e w1 ⟨⟨i, hi, rfl⟩, q, rfl⟩
  match i, hi with
  | 0, _ => go_wp2; go_ret; exact ⟨⟨512, by decide, rfl⟩, q, rfl⟩
  | 1, _ => go_wp2; go_ret; exact ⟨⟨1024, by decide, rfl⟩, q, rfl⟩
  | 2, _ => go_wp2; go_ret; exact ⟨⟨2048, by decide, rfl⟩, q, rfl⟩
  | 3, _ => go_wp2; go_ret; exact ⟨⟨4096, by decide, rfl⟩, q, rfl⟩
end Go.Proofs.Ytgifnaahahfhbab
