/- turn: what its owner writes over; rows of bytes between borders. -/
import Derived.Test.YtgifnaahahfhbaaStays
import Derived.Test.YtgifnaahahfhbaaCopiesE
import Derived.BigRegion
import Derived.BigQuiet
namespace Go.Proofs.Ytgifnaahahfhbaa
open Go.RowKit

theorem xor85 (c : UInt8) : bits BinOp.xor IntKind.u8 (c.toNat : Int) 85 = ((c ^^^ 85).toNat : Int) := by
  have h : ∀ n : Fin 256, bits BinOp.xor IntKind.u8 (n.val : Int) 85 = (((UInt8.ofNat n.val) ^^^ 85).toNat : Int) := by decide +kernel
  have := h ⟨c.toNat, c.toNat_lt⟩
  simpa using this
theorem plusMod (c : UInt8) (h : (c.toNat : Int) < 255) : ((c.toNat : Int) + 1) % 256 = ((c + 1).toNat : Int) := by
  have e : (c + 1).toNat = c.toNat + 1 := by
    rw [UInt8.toNat_add]
    simp only [UInt8.toNat_ofNat, Nat.reducePow, Nat.reduceMod]
    omega
  rw [e]
  omega

/-- All below a border stays, but for the law's Book. -/
structure Ty (hi : Nat) (w w' : World) : Prop where
  typ : ∀ (k : Nat) (cur : Array Value) (t : TypeId) z, t ≠ 31 → k < hi → w.heap[k]? = some (Obj.cells cur t z) → w'.heap[k]? = some (Obj.cells cur t z)
  size : w.heap.size ≤ w'.heap.size
theorem Ty.refl (hi : Nat) (w : World) : Ty hi w w := ⟨fun _ _ _ _ _ _ h => h, Nat.le_refl _⟩
theorem Ty.trans {hi : Nat} {a b c : World} (h : Ty hi a b) (k : Ty hi b c) : Ty hi a c := ⟨fun i cur t z ht hl hi => k.typ i cur t z ht hl (h.typ i cur t z ht hl hi), Nat.le_trans h.size k.size⟩
theorem Ty.of {hi : Nat} {w w' : World} (h : Below w.heap.size w w') : Ty hi w w' := ⟨fun k _ _ _ _ _ hk => by rw [h.block k (Array.getElem?_eq_some_iff.1 hk).1]; exact hk, h.size⟩
theorem RowAt.ty {hi : Nat} {w w' : World} {g S : Nat} {D : List It} (h : RowAt w g S D) (hT : Ty hi w w') (hg : g < hi) : RowAt w' g S D := by
  obtain ⟨cur, h1, h2⟩ := h.is
  exact ⟨cur, hT.typ _ _ _ _ (by decide) hg h1, h2⟩
theorem own_ty {w w' : World} {base n s : Nat} {T : TypeId} {v : Value} {xs : List Value} (h : w.ownsRow base T s v n xs) (hT : Ty w.heap.size w w') (ht : T ≠ 31) : w'.ownsRow base T s v n xs :=
  own_same h fun k hk hl => by
    obtain ⟨_, _, cur, hc⟩ := own_type h k hk
    rw [hc]; exact hT.typ _ _ _ _ ht hl hc
theorem NewKey.ty {base : Nat} {w w' : World} {v : Value} {ks : Key} (h : NewKey base w v ks) (hT : Ty w.heap.size w w') : NewKey base w' v ks := ⟨own_ty h.own hT (by decide), h.short⟩
theorem LoanAt.ty {base : Nat} {w w' : World} {v : Value} {l : List En} (h : LoanAt base w v l) (hT : Ty w.heap.size w w') : LoanAt base w' v l := by
  obtain ⟨gl, vk, vv, Z, y1, y2, h1, h2, h3, h4, h5, h6, h7, h8⟩ := h.is
  exact ⟨gl, vk, vv, Z, y1, y2, h1, h2, h3.ty hT h3.lt, own_ty h4 hT (by decide), own_ty h5 hT (by decide), fun z hz => ⟨(h6 z hz).k.ty hT, (h6 z hz).v.ty hT⟩, h7.ty hT, h8.ty hT⟩

/-- Bytes between borders may have been written over; all else stays. -/
structure Over (lo hi : Nat) (w w' : World) : Prop where
  keep : Keep 5 lo w w'
  far : ∀ k : Nat, hi ≤ k → k < w.heap.size → w'.heap[k]? = w.heap[k]?
theorem Over.refl (lo hi : Nat) (w : World) : Over lo hi w w := ⟨Keep.refl _ _ _, fun _ _ _ => rfl⟩
theorem Over.trans {lo hi : Nat} {a b c : World} (h : Over lo hi a b) (k : Over lo hi b c) : Over lo hi a c :=
  ⟨h.keep.trans k.keep, fun i hi hl => by rw [k.far i hi (Nat.lt_of_lt_of_le hl h.keep.low.size), h.far i hi hl]⟩
theorem Over.of {lo hi : Nat} {w w' : World} (h : Below w.heap.size w w') (hB : lo ≤ w.heap.size) : Over lo hi w w' := ⟨Keep.of h hB, fun k _ hl => h.block k hl⟩
theorem Over.drew {lo hi : Nat} {w w' : World} (h : Over lo hi w w') : Over lo hi w w'.drew := ⟨⟨h.keep.low.drew, h.keep.typ⟩, h.far⟩

/-- Bytes of that number, in a block between borders. -/
structure KRow (lo hi : Nat) (w : World) (v : Value) (n : Nat) : Prop where
  is : ∃ (g c : Nat) (cur : Array Value) (ks : Key), v = .slice (some ⟨g, 0, none⟩) n c ∧ lo ≤ g ∧ g < hi ∧ w.heap[g]? = some (.cells cur 5 (0, 0)) ∧ n ≤ c ∧ ks.length = n ∧ cur.toList.take n = ks.map encB
  short : n ≤ 140737488355328
theorem KRow.of {lo : Nat} {w : World} {v : Value} {ks : Key} (h : NewKey lo w v ks) (hn : 0 < ks.length) : KRow lo w.heap.size w v ks.length := by
  obtain ⟨⟨_, ⟨_, h0⟩ | ⟨g, cap, cur, e, hb, hg, hc, _, _, ht⟩⟩, hs⟩ := h
  · omega
  · rw [Nat.mul_one] at ht
    exact ⟨⟨g, cap, cur, ks, e, hb, (Array.getElem?_eq_some_iff.1 hg).1, hg, hc, rfl, ht⟩, hs⟩
theorem KRow.here {lo hi : Nat} {w w' : World} {v : Value} {n : Nat} (h : KRow lo hi w v n) (hb : Below hi w w') : KRow lo hi w' v n := by
  obtain ⟨⟨g, c, cur, ks, e, h1, h2, h3, h4⟩, hs⟩ := h
  exact ⟨⟨g, c, cur, ks, e, h1, h2, by rw [hb.block g h2]; exact h3, h4⟩, hs⟩
theorem KRow.ty {lo hi : Nat} {w w' : World} {v : Value} {n : Nat} (h : KRow lo hi w v n) (hT : Ty hi w w') : KRow lo hi w' v n := by
  obtain ⟨⟨g, c, cur, ks, e, h1, h2, h3, h4⟩, hs⟩ := h
  exact ⟨⟨g, c, cur, ks, e, h1, h2, hT.typ _ _ _ _ (by decide) h2 h3, h4⟩, hs⟩
theorem KRow.put {lo hi : Nat} {w : World} {v : Value} {n : Nat} (h : KRow lo hi w v n) (g j : Nat) (x : UInt8) : KRow lo hi (w.setCell ⟨g, j, none⟩ (encB x)) v n := by
  obtain ⟨⟨g', c, cur, ks, e, h1, h2, h3, h4, h5, h6⟩, hs⟩ := h
  by_cases q : g' = g
  · subst q
    refine ⟨⟨g', c, _, ks.set j x, e, h1, h2, heap_set_same _ h3, h4, by rw [List.length_set]; exact h5, ?_⟩, hs⟩
    rw [List.map_set, ← h6]
    simp [List.take_set]
  · exact ⟨⟨g', c, cur, ks, e, h1, h2, by rw [heap_set_other _ q]; exact h3, h4, h5, h6⟩, hs⟩
theorem KRow.cell {lo hi : Nat} {w : World} {v : Value} {n : Nat} (h : KRow lo hi w v n) (j : Nat) (hj : j < n) :
    ∃ (g c : Nat) (b : UInt8), v = .slice (some ⟨g, 0, none⟩) n c ∧ n ≤ c ∧ w.cell? ⟨g, j, none⟩ = some (.int .u8 (b.toNat : Int)) ∧ w.frozen? ⟨g, j, none⟩ = false ∧ ∀ x : UInt8, Over lo hi w (w.setCell ⟨g, j, none⟩ (encB x)) := by
  obtain ⟨⟨g, c, cur, ks, e, h1, h2, h3, h4, h5, h6⟩, hs⟩ := h
  refine ⟨g, c, ks[j]'(by omega), e, h4, ?_, row_frozen h3 j, fun x => ⟨keep_set h3 h1 _, fun k hk _ => heap_set_other _ (by omega)⟩⟩
  have h7 : (cur.toList.take n)[j]? = (ks.map encB)[j]? := by rw [h6]
  rw [List.getElem?_take, if_pos hj, Array.getElem?_toList, List.getElem?_map, List.getElem?_eq_getElem (by omega)] at h7
  rw [row_cell h3, h7]
  rfl
theorem KRow.drews {lo hi : Nat} {w : World} {v : Value} {n : Nat} (h : KRow lo hi w v n) (q : Nat) : KRow lo hi (w.drewN q) v n := ⟨h.is, h.short⟩
theorem KRow.form {lo hi : Nat} {w : World} {v : Value} {n : Nat} (h : KRow lo hi w v n) : ∃ g c, v = .slice (some ⟨g, 0, none⟩) n c := by
  obtain ⟨⟨g, c, _, _, e, _⟩, _⟩ := h
  exact ⟨g, c, e⟩
theorem KRow.in {lo hi : Nat} {w : World} {v : Value} {n : Nat} (h : KRow lo hi w v (n + 2)) : ∃ ks : Key, ks.length = n ∧ ∀ w', Ty hi w w' → KeyIn hi w' (less2 v) ks := by
  obtain ⟨⟨g, c, cur, ks, rfl, h1, h2, h3, h4, h5, h6⟩, hs⟩ := h
  have hl : (ks.take n).length = n := by rw [List.length_take]; omega
  refine ⟨ks.take n, hl, fun w' hT => ⟨⟨_, c, ?_, fun j x hj => ⟨g, 0, rfl, h2, ?_⟩, by omega, fun h => (by cases h)⟩, by omega⟩⟩
  · rw [hl]; rfl
  · have hj2 := (List.getElem?_eq_some_iff.1 hj).1
    rw [List.getElem?_take, if_pos (by omega)] at hj
    have h7 : (cur.toList.take (n + 2))[j]? = (ks.map encB)[j]? := by rw [h6]
    rw [List.getElem?_take, if_pos (by omega), Array.getElem?_toList, List.getElem?_map, hj] at h7
    rw [Nat.zero_add, row_cell (hT.typ _ _ _ _ (by decide) h2 h3), h7]
    rfl

/-- While they are written over. -/
structure TurnAt (lo hi : Nat) (W wx : World) (Z : List Ln) : Prop where
  over : Over lo hi W wx
  rows : ∀ z ∈ Z, KRow lo hi wx z.kv (z.e.k.length + 2) ∧ KRow lo hi wx z.vv (z.e.v.length + 2)
theorem TurnAt.put {lo hi : Nat} {W wx : World} {Z : List Ln} (h : TurnAt lo hi W wx Z) {g j : Nat} {x : UInt8} (ho : Over lo hi wx (wx.setCell ⟨g, j, none⟩ (encB x))) : TurnAt lo hi W ((wx.setCell ⟨g, j, none⟩ (encB x)).drew) Z :=
  ⟨(h.over.trans ho).drew, fun z hz => ⟨⟨((h.rows z hz).1.put g j x).is, (h.rows z hz).1.short⟩, ⟨((h.rows z hz).2.put g j x).is, (h.rows z hz).2.short⟩⟩⟩
theorem TurnAt.put0 {lo hi : Nat} {W wx : World} {Z : List Ln} (h : TurnAt lo hi W wx Z) {g j : Nat} {x : UInt8} (ho : Over lo hi wx (wx.setCell ⟨g, j, none⟩ (encB x))) : TurnAt lo hi W (wx.setCell ⟨g, j, none⟩ (encB x)) Z :=
  ⟨h.over.trans ho, fun z hz => ⟨(h.rows z hz).1.put g j x, (h.rows z hz).2.put g j x⟩⟩
theorem TurnAt.drew {lo hi : Nat} {W wx : World} {Z : List Ln} (h : TurnAt lo hi W wx Z) : TurnAt lo hi W wx.drew Z :=
  ⟨h.over.drew, fun z hz => ⟨⟨(h.rows z hz).1.is, (h.rows z hz).1.short⟩, ⟨(h.rows z hz).2.is, (h.rows z hz).2.short⟩⟩⟩
theorem TurnAt.draws {lo hi : Nat} {W wx : World} {Z : List Ln} (h : TurnAt lo hi W wx Z) (n : Nat) : TurnAt lo hi W (wx.drewN n) Z :=
  ⟨⟨⟨below_draws h.over.keep.low n, h.over.keep.typ⟩, h.over.far⟩, fun z hz => ⟨⟨(h.rows z hz).1.is, (h.rows z hz).1.short⟩, ⟨(h.rows z hz).2.is, (h.rows z hz).2.short⟩⟩⟩
theorem turned_list {lo hi : Nat} {W : World} : ∀ (Z : List Ln), (∀ z ∈ Z, KRow lo hi W z.kv (z.e.k.length + 2) ∧ KRow lo hi W z.vv (z.e.v.length + 2)) →
    ∃ M : List It, M.map (fun y => (y.v1, y.v2)) = Z.map (fun z => (z.it.v1, z.it.v2)) ∧ (∀ e ∈ M, ∀ W', Ty hi W W' → e.Ok hi W') ∧ weightE (M.map It.e) = weightE (Z.map Ln.e)
  | [], _ => ⟨[], rfl, fun e he => by simp at he, rfl⟩
  | z :: Z, h => by
    obtain ⟨M, h1, h2, h3⟩ := turned_list Z fun y hy => h y (List.mem_cons_of_mem _ hy)
    obtain ⟨ks, l1, k1⟩ := (h z (List.mem_cons_self ..)).1.in
    obtain ⟨vs, l2, k2⟩ := (h z (List.mem_cons_self ..)).2.in
    refine ⟨⟨less2 z.kv, less2 z.vv, ⟨ks, vs⟩⟩ :: M, by rw [List.map_cons, List.map_cons, h1]; rfl, fun e he W' hT => ?_, ?_⟩
    · rcases List.mem_cons.1 he with rfl | he
      · exact ⟨k1 W' hT, k2 W' hT⟩
      · exact h2 e he W' hT
    · simp only [List.map_cons, weightE] at h3 ⊢
      rw [l1, l2]
      omega
theorem flat_pairs {M N : List It} (h : M.map (fun y => (y.v1, y.v2)) = N.map (fun z => (z.v1, z.v2))) : flat M = flat N := by
  induction M generalizing N with
  | nil => cases N with
    | nil => rfl
    | cons y N => simp at h
  | cons x M ih => cases N with
    | nil => simp at h
    | cons y N =>
      simp only [List.map_cons, List.cons.injEq, Prod.mk.injEq] at h
      rw [flat_cons, flat_cons, h.1.1, h.1.2, ih h.2]
end Go.Proofs.Ytgifnaahahfhbaa
