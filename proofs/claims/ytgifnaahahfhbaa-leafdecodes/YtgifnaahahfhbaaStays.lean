/- stays: what is lent is as it was. -/
import Derived.Test.YtgifnaahahfhbaaLend3
namespace Go.Proofs.Ytgifnaahahfhbaa
open Go.RowKit

theorem ends_length (k : Key) : (k ++ ends2).length = k.length + 2 := by simp [ends2]
theorem KeyIn.less {B : Nat} {w : World} {v : Value} {k : Key} (h : KeyIn B w v (k ++ ends2)) : KeyIn B w (less2 v) k := by
  obtain ⟨⟨a, c, rfl, h1, h2, h3⟩, h4⟩ := h
  rw [ends_length] at h2 h4
  refine ⟨⟨a, c, ?_, fun j x hj => h1 j x ?_, by omega, h3⟩, by omega⟩
  · show Value.slice a ((k ++ ends2).length - 2) c = _
    rw [ends_length]; rfl
  · rw [List.getElem?_append_left (List.getElem?_eq_some_iff.1 hj).1]; exact hj
theorem Ln.Ok.it {base : Nat} {w : World} {z : Ln} (h : z.Ok base w) : It.Ok w.heap.size w z.it := ⟨h.k.in.less, h.v.in.less⟩
theorem RowAt.list {w : World} {g S c : Nat} {D E : List It} (h : RowAt w g S (D ++ E)) (hc : D.length ≤ c) (hok : ∀ e ∈ D, e.Ok w.heap.size w) (hs : D.length * 48 ≤ 140737488355328) : ListAt w.heap.size w (.slice (some ⟨g, 0, none⟩) D.length c) D := by
  refine ⟨⟨_, c, rfl, hc, fun h => (by cases h), fun j u hj => ⟨g, 0, rfl, h.lt, ?_⟩⟩, hs, hok⟩
  obtain ⟨cur, h1, _, h3⟩ := h.is
  have hl := (List.getElem?_eq_some_iff.1 hj).1
  rw [flat_length] at hl
  have h4 : (flat (D ++ E))[j]? = some u := by rw [flat_append, List.getElem?_append_left (by rw [flat_length]; exact hl)]; exact hj
  rw [Nat.zero_add, row_cell h1, ← h4, ← h3, List.getElem?_take, if_pos (by rw [List.length_append]; omega), Array.getElem?_toList]
theorem strB_two (k : Key) : (strB k ++ ⟨#[167, 168]⟩) = strB (k ++ ends2) := by
  apply ByteArray.ext
  simp [strB, ends2, ByteArray.data_append]
theorem strB_size (k : Key) : (strB k).size = k.length := by simp [strB, ByteArray.size]
theorem own_form {w : World} {base n s : Nat} {T : TypeId} {v : Value} {xs : List Value} (h : w.ownsRow base T s v n xs) : ∃ a c, v = .slice a n c := by
  obtain ⟨_, ⟨e, h0⟩ | ⟨g, cap, cur, e, _⟩⟩ := h
  · exact ⟨_, _, by rw [e, h0]⟩
  · exact ⟨_, _, e⟩
theorem own_cell {w : World} {base n i : Nat} {T : TypeId} {v u : Value} {xs : List Value} (h : w.ownsRow base T 1 v n xs) (hi : xs[i]? = some u) : ∃ g c, v = .slice (some ⟨g, 0, none⟩) n c ∧ w.cell? ⟨g, i, none⟩ = some u := by
  obtain ⟨hl, ⟨e, h0⟩ | ⟨g, cap, cur, e, _, hg, _, _, _, ht⟩⟩ := h
  · have := (List.getElem?_eq_some_iff.1 hi).1
    omega
  · refine ⟨g, cap, e, ?_⟩
    have h1 := (List.getElem?_eq_some_iff.1 hi).1
    rw [row_cell hg, ← hi, ← ht, List.getElem?_take, if_pos (by omega), Array.getElem?_toList]

set_option maxHeartbeats 1600000 in
set_option maxRecDepth 100000 in
theorem stays_any {base : Nat} {w : World} {x v : Value} {L : List It} (hx : LoanAt base w x (L.map It.e)) (hL : ListAt w.heap.size w v L) (hw : weightE (L.map It.e) ≤ 4294967296) :
    Calls Try.prog 14 #[x, v] w fun e w' => e = .returned (.bool true) ∧ Below w.heap.size w w' := by
  have hwl := weightE_length (L.map It.e)
  rw [List.length_map] at hwl
  obtain ⟨gl, vk, vv, Z, y1, y2, rfl, his, hrow, hkeys, hvals, hok, hy1, hy2⟩ := hx.is
  obtain ⟨a, c, rfl⟩ := hL.form
  rw [List.length_map] at hrow ⊢
  have hzl : Z.length = L.length := by have := congrArg List.length his; simpa using this
  rw [hzl] at hkeys hvals
  obtain ⟨ka, kc, rfl⟩ := own_form hkeys
  obtain ⟨va, vc, rfl⟩ := own_form hvals
  obtain ⟨W0, hW0⟩ : ∃ W0, W0 = w.alloc (.cells #[.slice (some ⟨gl, 0, none⟩) (L.length + 2) (L.length + 2), .slice ka L.length kc, .slice va L.length vc] 33) := ⟨_, rfl⟩
  have HB0 : Hid (Below w.heap.size w W0) := by rw [hW0]; exact below_new _ _
  have HX0 : Hid (LBox W0 w.heap.size (.slice (some ⟨gl, 0, none⟩) (L.length + 2) (L.length + 2)) (.slice ka L.length kc) (.slice va L.length vc)) := by rw [hW0]; exact ⟨heap_alloc_last _ _⟩
  have HL : Hid (ListAt W0.heap.size W0 (.slice a L.length c) L) := hL.here HB0.out
  have HOK : Hid (∀ z ∈ Z, z.Ok base W0) := fun z hz => (hok z hz).here HB0.out
  have HROW : Hid (RowAt W0 gl ((L.length + 2) * 2) (Z.map Ln.it ++ [y1, y2])) := hrow.here HB0.out
  have HKE : Hid (W0.ownsRow base 39 1 (.slice ka L.length kc) L.length (Z.map Ln.kv)) := own_same hkeys fun k _ hl => HB0.out.block k hl
  have HVA : Hid (W0.ownsRow base 39 1 (.slice va L.length vc) L.length (Z.map Ln.vv)) := own_same hvals fun k _ hl => HB0.out.block k hl
  have HY1 : Hid (KeyAt W0 y1.v1 [1]) := (hy1.here HB0.out).at
  have HY2 : Hid (KeyAt W0 y2.v1 [2]) := (hy2.here HB0.out).at
  have HIS : Hid (Z.map Ln.e = L.map It.e) := his
  have hll : L.length ≤ 4294967296 := by omega
  have HZL : Hid (Z.length = L.length) := hzl
  have HWT : Hid (weightE (L.map It.e) ≤ 4294967296) := hw
  have HSA : Hid (Calls Try.prog 20 #[.slice (some ⟨gl, 0, none⟩) L.length (L.length + 2), .slice a L.length c] W0 fun e w' => e = .returned (.bool true) ∧ ∃ q', w' = W0.drewN q') := by
    have h1 : ListAt W0.heap.size W0 (.slice (some ⟨gl, 0, none⟩) (Z.map Ln.it).length (L.length + 2)) (Z.map Ln.it) := HROW.out.list (by rw [List.length_map, HZL.out]; omega) (fun e he => by
      obtain ⟨z, hz, rfl⟩ := List.mem_map.1 he
      exact (HOK.out z hz).it) (by rw [List.length_map, HZL.out]; omega)
    rw [List.length_map, HZL.out] at h1
    have h2 := same_any h1 HL.out
    have h3 : (Z.map Ln.it).map It.e = L.map It.e := by rw [List.map_map]; exact HIS.out
    rw [h3, decide_eq_true rfl] at h2
    exact h2
  clear hx hL hrow hkeys hvals hok hy1 hy2 his hzl hw hwl
  obtain ⟨k0, k1, k2⟩ := HX0.out.cells
  go_enter Try.func14, Try.ntmps14
  go_wp2_with fail
  rw [← hW0]
  refine Calls.mono HSA.out ?_
  rintro e1 w1 ⟨rfl, q1, rfl⟩
  obtain ⟨c0, _⟩ := HROW.out.cells L.length y1 (by rw [List.getElem?_append_right (by rw [List.length_map, HZL.out]; exact Nat.le_refl _), List.length_map, HZL.out, Nat.sub_self]; rfl)
  obtain ⟨c1, _⟩ := HROW.out.cells (L.length + 1) y2 (by rw [List.getElem?_append_right (by rw [List.length_map, HZL.out]; exact Nat.le_succ _), List.length_map, HZL.out, Nat.add_sub_cancel_left]; rfl)
  have v1 : ∀ q, Sem.run Try.prog (convert 39 9 y1.v1) (W0.drewN q) = .ok (.string (strB [1])) (W0.drewN q) := fun q => conv_key (HY1.out.draws q)
  have v2 : ∀ q, Sem.run Try.prog (convert 39 9 y2.v1) (W0.drewN q) = .ok (.string (strB [2])) (W0.drewN q) := fun q => conv_key (HY2.out.draws q)
  have s1 : ((strB [1]).toList == [1]) = true := by rw [ByteArray.toList_eq]; simp [strB]
  have s2 : ((strB [2]).toList == [2]) = true := by rw [ByteArray.toList_eq]; simp [strB]
  generalize strB [1] = S1 at v1 s1
  generalize strB [2] = S2 at v2 s2
  clear hW0 HSA
  go_wp2_with fail
  clear v1 v2 s1 s2 c0 c1 k0
  go_loopw [7] (fun i wx => ∃ k : Nat, k ≤ L.length ∧ i = .int .i64 k ∧ ∃ q, wx = W0.drewN q) (fun i _ => L.length - (intOf i).toNat)
  case atStart => exact ⟨0, by omega, rfl, _, rfl⟩
  case round =>
    obtain ⟨k, hk, rfl, q, rfl⟩ := hrel
    by_cases hlt : k < L.length
    · have hz : (k : Int) < (L.length : Int) := by omega
      obtain ⟨e, he⟩ : ∃ e, L[k]? = some e := ⟨_, List.getElem?_eq_getElem hlt⟩
      obtain ⟨z, hze⟩ : ∃ z, Z[k]? = some z := ⟨_, List.getElem?_eq_getElem (by rw [HZL.out]; exact hlt)⟩
      have hee : z.e = e.e := by
        have := congrArg (fun l => l[k]?) HIS.out
        simp only [List.getElem?_map, he, hze, Option.map_some, Option.some.injEq] at this
        exact this
      obtain ⟨gk, ck, e1, d0⟩ := own_cell (i := k) HKE.out (u := z.kv) (by rw [List.getElem?_map, hze]; rfl)
      cases e1
      obtain ⟨gv, cv, e1, d1⟩ := own_cell (i := k) HVA.out (u := z.vv) (by rw [List.getElem?_map, hze]; rfl)
      cases e1
      obtain ⟨g, off, c', e1, m0, m1⟩ := HL.out.cells k e he
      cases e1
      have hzo := HOK.out z (List.mem_of_getElem? hze)
      have heo := HL.out.ok e (List.mem_of_getElem? he)
      have v1 : ∀ q, Sem.run Try.prog (convert 39 9 z.kv) (W0.drewN q) = .ok (.string (strB (z.e.k ++ ends2))) (W0.drewN q) := fun q => conv_key (hzo.k.at.draws q)
      have v2 : ∀ q, Sem.run Try.prog (convert 39 9 z.vv) (W0.drewN q) = .ok (.string (strB (z.e.v ++ ends2))) (W0.drewN q) := fun q => conv_key (hzo.v.at.draws q)
      have v3 : ∀ q, Sem.run Try.prog (convert 39 9 e.v1) (W0.drewN q) = .ok (.string (strB e.e.k)) (W0.drewN q) := fun q => conv_key ((heo.k.at (Nat.le_refl _)).draws q)
      have v4 : ∀ q, Sem.run Try.prog (convert 39 9 e.v2) (W0.drewN q) = .ok (.string (strB e.e.v)) (W0.drewN q) := fun q => conv_key ((heo.v.at (Nat.le_refl _)).draws q)
      rw [hee] at v1 v2
      have s1 := strB_two e.e.k
      have s2 := strB_two e.e.v
      have hwe : 1 + e.e.k.length + e.e.v.length ≤ 4294967296 := Nat.le_trans (weightE_mem (List.mem_map_of_mem (List.mem_of_getElem? he))) HWT.out
      have t1 := strB_size e.e.k
      have t2 := strB_size e.e.v
      have b1 : ¬ (9223372036854775807 : Int) < (e.e.k.length : Int) + 2 := by omega
      have b2 : ¬ (9223372036854775807 : Int) < (e.e.v.length : Int) + 2 := by omega
      have b3 : ¬ 9223372036854775807 < e.e.k.length + 2 := by omega
      have b4 : ¬ 9223372036854775807 < e.e.v.length + 2 := by omega
      generalize strB (e.e.k ++ ends2) = S1 at v1 s1
      generalize strB (e.e.v ++ ends2) = S2 at v2 s2
      generalize strB e.e.k = S3 at v3 s1 t1
      generalize strB e.e.v = S4 at v4 s2 t2
      clear hzo heo hee he hze
      have d2 : ByteArray.size ⟨#[167, 168]⟩ = 2 := rfl
      go_wp2_with fail
      go_quiet (fail)
      go_wp2
      exact ⟨⟨k + 1, by omega, by go_num, _, rfl⟩, by simp [intOf]; omega⟩
    · have hz : ¬ (k : Int) < (L.length : Int) := by omega
      go_wp2
      go_ret
      exact ⟨rfl, below_draws HB0.out _⟩
theorem LoanAt.here {base : Nat} {w w' : World} {v : Value} {l : List En} (h : LoanAt base w v l) (hb : Below w.heap.size w w') : LoanAt base w' v l := by
  obtain ⟨gl, vk, vv, Z, y1, y2, h1, h2, h3, h4, h5, h6, h7, h8⟩ := h.is
  exact ⟨gl, vk, vv, Z, y1, y2, h1, h2, h3.here hb, own_same h4 fun k _ hl => hb.block k hl, own_same h5 fun k _ hl => hb.block k hl, fun z hz => (h6 z hz).here hb, h7.here hb, h8.here hb⟩
theorem LoanAt.list {base : Nat} {w : World} {v : Value} {l : List En} (h : LoanAt base w v l) (hs : l.length * 48 ≤ 140737488355328) :
    ∃ gl ka kn kc va vn vc F, v = .agg #[.slice (some ⟨gl, 0, none⟩) (l.length + 2) (l.length + 2), .slice ka kn kc, .slice va vn vc] ∧ F.map It.e = l ∧ ListAt w.heap.size w (.slice (some ⟨gl, 0, none⟩) l.length (l.length + 2)) F := by
  obtain ⟨gl, vk, vv, Z, y1, y2, rfl, h2, h3, h4, h5, h6, h7, h8⟩ := h.is
  obtain ⟨ka, kn, kc, rfl⟩ := own_shape h4
  obtain ⟨va, vn, vc, rfl⟩ := own_shape h5
  have hzl : (Z.map Ln.it).length = l.length := by rw [← h2, List.length_map, List.length_map]
  have h9 := h3.list (c := l.length + 2) (by omega) (fun e he => by
    obtain ⟨z, hz, rfl⟩ := List.mem_map.1 he
    exact (h6 z hz).it) (by omega)
  rw [hzl] at h9
  exact ⟨gl, ka, kn, kc, va, vn, vc, _, rfl, by rw [List.map_map]; exact h2, h9⟩
end Go.Proofs.Ytgifnaahahfhbaa
