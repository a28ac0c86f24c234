/- stays: its parts. -/
import Derived.Test.YtaehchijeinloaaLendK2
namespace Go.Proofs.Ytaehchijeinloaa
open Go.RowKit

/-- All below a border stays, and all from another one on. -/
structure Mid (lo hi : Nat) (w w' : World) : Prop where
  low : Below lo w w'
  high : ∀ k, hi ≤ k → k < w.heap.size → w'.heap[k]? = w.heap[k]?
theorem Mid.trans {lo hi : Nat} {a b c : World} (h : Mid lo hi a b) (k : Mid lo hi b c) : Mid lo hi a c :=
  ⟨h.low.trans k.low, fun i h1 h2 => (k.high i h1 (Nat.lt_of_lt_of_le h2 h.low.size)).trans (h.high i h1 h2)⟩
theorem Mid.of {lo hi : Nat} {w w' : World} (h : Below w.heap.size w w') (hlo : lo ≤ w.heap.size) : Mid lo hi w w' := ⟨h.mono hlo, fun k _ h2 => h.block k h2⟩
theorem Only.mid {lo hi g : Nat} {w w' : World} (h : Only g w w') (h1 : lo ≤ g) (h2 : g < hi) : Mid lo hi w w' := ⟨h.below h1, fun k hk _ => h.far k (by omega)⟩
theorem Only.refl (g : Nat) (w : World) : Only g w w := ⟨Below.refl _ _, fun _ _ => rfl⟩
theorem Only.trans {g : Nat} {a b c : World} (h : Only g a b) (k : Only g b c) : Only g a c := ⟨h.low.trans k.low, fun i hi => (k.far i hi).trans (h.far i hi)⟩
theorem Only.set (g i : Nat) (w : World) (v : Value) : Only g w (w.setCell ⟨g, i, none⟩ v) := ⟨Below.setCell (p := ⟨g, i, none⟩) (Below.refl _ _) (Nat.le_refl _) _, fun _ hk => heap_set_other _ hk⟩
theorem Only.drew {g : Nat} {a b : World} (h : Only g a b) : Only g a b.drew := ⟨h.low.drew, h.far⟩
theorem Only.row {g k : Nat} {a b : World} {cur : Array Value} {t : TypeId} {z : Nat × Nat} (h : Only g a b) (hk : k ≠ g) (hr : a.heap[k]? = some (.cells cur t z)) : b.heap[k]? = some (.cells cur t z) := (h.far k hk).trans hr

theorem Only.keep {g B : Nat} {T : TypeId} {w w' : World} {cur : Array Value} (h : Only g w w') (hr : w.heap[g]? = some (.cells cur T (0, 0))) (hB : B ≤ g) : Keep T B w w' := by
  refine ⟨h.below hB, fun k cur' t z ht hk => (h.far k ?_).trans hk⟩
  rintro rfl
  rw [hr] at hk
  simp only [Option.some.injEq, Obj.cells.injEq] at hk
  exact ht hk.2.1.symm
/-- What the Loan's own writes leave alone. -/
structure Frm (base b pb : Nat) (W : World) (x y v0 v1 v2 vk vl m1 m2 : Value) (F : List Lk) : Prop where
  par : KBox W pb x y
  box : LBox W b v0 v1 v2 vk vl
  keys : W.ownsRow base 27 1 vk F.length (F.map Lk.kv)
  list : W.ownsRow base 27 1 vl (F.length + 2) (F.map Lk.lv ++ [m1, m2])
theorem Frm.keep {base b pb B : Nat} {T : TypeId} {W W' : World} {x y v0 v1 v2 vk vl m1 m2 : Value} {F : List Lk} (h : Frm base b pb W x y v0 v1 v2 vk vl m1 m2 F) (hk : Keep T B W W') (h1 : 26 ≠ T) (h2 : 33 ≠ T) (h3 : 27 ≠ T) : Frm base b pb W' x y v0 v1 v2 vk vl m1 m2 F := by
  have ho : ∀ (n : Nat) (v : Value) (xs : List Value), W.ownsRow base 27 1 v n xs → W'.ownsRow base 27 1 v n xs := fun n v xs ho => own_same ho fun k hk2 _ => by
    obtain ⟨_, _, cur, hc⟩ := own_type ho k hk2
    rw [hc]; exact hk.typ _ _ _ _ h3 hc
  exact ⟨⟨hk.typ _ _ _ _ h1 h.par.row⟩, ⟨hk.typ _ _ _ _ h2 h.box.row⟩, ho _ _ _ h.keys, ho _ _ _ h.list⟩
theorem Frm.here {base b pb : Nat} {W W' : World} {x y v0 v1 v2 vk vl m1 m2 : Value} {F : List Lk} (h : Frm base b pb W x y v0 v1 v2 vk vl m1 m2 F) (hb : Below W.heap.size W W') : Frm base b pb W' x y v0 v1 v2 vk vl m1 m2 F :=
  ⟨h.par.here hb, h.box.here hb, own_same h.keys fun k _ hl => hb.block k hl, own_same h.list fun k _ hl => hb.block k hl⟩
theorem own_cell {w : World} {base n i : Nat} {T : TypeId} {v u : Value} {xs : List Value} (h : w.ownsRow base T 1 v n xs) (hi : xs[i]? = some u) : ∃ g c, v = .slice (some ⟨g, 0, none⟩) n c ∧ w.cell? ⟨g, i, none⟩ = some u := by
  obtain ⟨hl, ⟨e, h0⟩ | ⟨g, cap, cur, e, _, hg, _, _, _, ht⟩⟩ := h
  · have := (List.getElem?_eq_some_iff.1 hi).1
    omega
  · refine ⟨g, cap, e, ?_⟩
    have h1 := (List.getElem?_eq_some_iff.1 hi).1
    rw [row_cell hg, ← hi, ← ht, List.getElem?_take, if_pos (by omega), Array.getElem?_toList]
theorem KeyAt.only {w w' : World} {v : Value} {k : Key} {g : Nat} {R : List Int} (h : KeyAt w v k) (ho : Only g w w') (hr : w.heap[g]? = some (.cells (R.map encI).toArray 3 (0, 0))) : KeyAt w' v k := by
  obtain ⟨⟨a, c, e, hb, hc⟩, hs⟩ := h
  refine ⟨⟨a, c, e, fun j x hj => ?_, hc⟩, hs⟩
  obtain ⟨q, off, e1, hq, hcell⟩ := hb j x hj
  refine ⟨q, off, e1, Nat.lt_of_lt_of_le hq ho.low.size, ?_⟩
  have hne : q ≠ g := by
    rintro rfl
    rw [row_cell hr] at hcell
    simp only [List.getElem?_toArray, List.getElem?_map] at hcell
    cases hp : R[off + j]? with
    | none => rw [hp] at hcell; cases hcell
    | some p => rw [hp] at hcell; cases hcell
  simp only [World.cell?, ho.far q hne]
  exact hcell
theorem marks_get (ps : List Int) (k : Nat) (h1 : ps.length ≤ k) (h2 : k < ps.length + 3) : (ps ++ [(-9 : Int), -9, -9])[k]? = some (-9) := by
  rw [List.getElem?_append_right h1]
  obtain ⟨j, hj⟩ : ∃ j, j = k - ps.length := ⟨_, rfl⟩
  rw [← hj]
  have : j < 3 := by omega
  match j, this with
  | 0, _ => rfl
  | 1, _ => rfl
  | 2, _ => rfl
theorem mk3_get (z : Key) (k : Nat) (h1 : z.length ≤ k) (h2 : k < z.length + 3) : (z ++ mk3)[k]? = some 167 := by
  rw [List.getElem?_append_right h1]
  obtain ⟨j, hj⟩ : ∃ j, j = k - z.length := ⟨_, rfl⟩
  rw [← hj]
  have : j < 3 := by omega
  match j, this with
  | 0, _ => rfl
  | 1, _ => rfl
  | 2, _ => rfl
/-- While a key is written over. -/
structure BStay (g : Nat) (W wx : World) (z : Key) (j : Nat) (R : Key) : Prop where
  row : BRow wx g R
  len : R.length = z.length + 3
  rest : ∀ k, j ≤ k → R[k]? = (z ++ mk3)[k]?
  only : Only g W wx
theorem xor21 (c : UInt8) : bits BinOp.xor IntKind.u8 (c.toNat : Int) 21 = ((c ^^^ 21).toNat : Int) := by
  have h : ∀ n : Fin 256, bits BinOp.xor IntKind.u8 (n.val : Int) 21 = (((UInt8.ofNat n.val) ^^^ 21).toNat : Int) := by decide +kernel
  have := h ⟨c.toNat, c.toNat_lt⟩
  simpa using this
theorem wrap64_fits (x : Int) : -9223372036854775808 ≤ wrap64 x ∧ wrap64 x ≤ 9223372036854775807 := by
  unfold wrap64; omega

theorem BStay.step {g : Nat} {W wx : World} {z : Key} {j : Nat} {R : Key} (h : BStay g W wx z j R) (c : UInt8) : BStay g W ((wx.setCell ⟨g, j, none⟩ (.int .u8 (bits BinOp.xor IntKind.u8 (c.toNat : Int) 21))).drew) z (j + 1) (R.set j (c ^^^ 21)) := by
  rw [xor21]
  exact ⟨⟨(h.row.set j (c ^^^ 21)).row⟩, by rw [List.length_set]; exact h.len, fun k hk => by rw [List.getElem?_set_ne (by omega)]; exact h.rest k (by omega), (h.only.trans (Only.set _ _ _ _)).drew⟩
/-- What is lent reads as Kids. -/
theorem CellsAt.of_own {w : World} {base e g c n : Nat} {xs ys : List Value} (h : w.ownsRow base e 1 (.slice (some ⟨g, 0, none⟩) n c) n xs) (hp : ys <+: xs) : CellsAt w.heap.size w (.slice (some ⟨g, 0, none⟩) ys.length c) ys := by
  obtain ⟨h0, ⟨e1, _⟩ | ⟨g', cap, cur, e1, _, hg, hc, _, _, ht⟩⟩ := h
  · cases e1
  · simp only [Value.slice.injEq, Option.some.injEq, Addr.mk.injEq] at e1
    obtain ⟨⟨rfl, _⟩, _, rfl⟩ := e1
    have hl := hp.length_le
    refine ⟨_, c, rfl, by omega, fun h => (by cases h), fun j u hj => ⟨g, 0, rfl, (Array.getElem?_eq_some_iff.1 hg).1, ?_⟩⟩
    have hj1 := (List.getElem?_eq_some_iff.1 hj).1
    have hx : xs[j]? = some u := by
      obtain ⟨t, rfl⟩ := hp
      rw [List.getElem?_append_left hj1]; exact hj
    rw [Nat.zero_add, row_cell hg, ← hx, ← ht, List.getElem?_take, if_pos (by omega), Array.getElem?_toList]
theorem IRow.ints {lo g : Nat} {w : World} {ps qs : List Int} (h : IRow lo w g (ps ++ qs)) (hs : ps.length * 8 ≤ 140737488355328) (hf : ∀ p ∈ ps, -9223372036854775808 ≤ p ∧ p ≤ 9223372036854775807) (c : Nat) (hc : ps.length ≤ c) : IntsAt w.heap.size w (.slice (some ⟨g, 0, none⟩) ps.length c) ps := by
  refine ⟨⟨_, c, by rw [List.length_map], by rw [List.length_map]; exact hc, fun h => (by cases h), fun j u hj => ⟨g, 0, rfl, h.lt, ?_⟩⟩, hs, hf⟩
  rw [Nat.zero_add, row_cell h.row]
  have hj1 := (List.getElem?_eq_some_iff.1 hj).1
  simp only [List.getElem?_toArray, List.map_append]
  rw [List.getElem?_append_left hj1]; exact hj
theorem brow_key {w : World} {g n c : Nat} {R : Key} (h : BRow w g R) (hn : n ≤ R.length) (hc : n ≤ c) (hs : n ≤ 140737488355328) : KeyIn w.heap.size w (.slice (some ⟨g, 0, none⟩) n c) (R.take n) := by
  have hl : (R.take n).length = n := by rw [List.length_take]; omega
  refine ⟨⟨_, c, by rw [hl], fun j x hj => ⟨g, 0, rfl, h.lt, ?_⟩, by omega, fun h => (by cases h)⟩, by omega⟩
  rw [List.getElem?_take] at hj
  split at hj
  · rw [Nat.zero_add]; exact (h.cell j x hj).1
  · cases hj
/-- A key that is lent, and the bytes of its block. -/
structure Lr where
  z : Lk
  r : Key
structure RowsAt (base : Nat) (w : World) (F : List Lk) (i : Nat) (G : List Lr) : Prop where
  is : G.map Lr.z = F
  ok : ∀ y ∈ G, base ≤ y.z.g ∧ BRow w y.z.g y.r ∧ y.r.length = y.z.k.length + 3 ∧ y.z.k.length ≤ 4294967296
  rest : ∀ k y, i ≤ k → G[k]? = some y → y.r = y.z.k ++ mk3
theorem RowsAt.start {base : Nat} {w : World} {F : List Lk} (h : ∀ z ∈ F, z.Ok base w) : RowsAt base w F 0 (F.map fun z => ⟨z, z.k ++ mk3⟩) := by
  refine ⟨by rw [List.map_map]; exact List.map_id _, fun y hy => ?_, fun k y _ hk => ?_⟩
  · obtain ⟨z, hz, rfl⟩ := List.mem_map.1 hy
    exact ⟨(h z hz).lo, ⟨(h z hz).row⟩, by simp [mk3], (h z hz).short⟩
  · rw [List.getElem?_map] at hk
    cases hf : F[k]? with
    | none => rw [hf] at hk; cases hk
    | some z => rw [hf] at hk; cases hk; rfl
theorem RowsAt.step {base : Nat} {wa wx : World} {F : List Lk} {i : Nat} {G : List Lr} {y : Lr} {R : Key} (h : RowsAt base wa F i G) (hn : (F.map Lk.g).Nodup) (hi : G[i]? = some y) (ho : Only y.z.g wa wx) (hr : BRow wx y.z.g R) (hl : R.length = y.z.k.length + 3) :
    RowsAt base wx F (i + 1) (G.set i ⟨y.z, R⟩) := by
  have hil := (List.getElem?_eq_some_iff.1 hi).1
  refine ⟨?_, fun x hx => ?_, fun k x hk hx => ?_⟩
  · rw [List.map_set, ← h.is]
    apply List.ext_getElem?
    intro n
    rw [List.getElem?_set]
    split
    · rename_i e; subst e; rw [if_pos (by simpa using hil), List.getElem?_map, hi]; rfl
    · rfl
  · obtain ⟨k, hk⟩ := List.getElem?_of_mem hx
    rw [List.getElem?_set] at hk
    split at hk
    · rename_i e; subst e
      cases hk
      exact ⟨(h.ok y (List.mem_of_getElem? hi)).1, hr, hl, (h.ok y (List.mem_of_getElem? hi)).2.2.2⟩
    · rename_i e
      obtain ⟨h1, h2, h3⟩ := h.ok x (List.mem_of_getElem? hk)
      refine ⟨h1, ⟨(ho.far _ ?_).trans h2.row⟩, h3⟩
      intro e2
      have hne := List.pairwise_iff_getElem.1 hn
      have a1 : (F.map Lk.g)[k]? = some x.z.g := by rw [← h.is, List.getElem?_map, List.getElem?_map, hk]; rfl
      have a2 : (F.map Lk.g)[i]? = some y.z.g := by rw [← h.is, List.getElem?_map, List.getElem?_map, hi]; rfl
      obtain ⟨hkl, b1⟩ := List.getElem?_eq_some_iff.1 a1
      obtain ⟨hil2, b2⟩ := List.getElem?_eq_some_iff.1 a2
      rcases Nat.lt_or_gt_of_ne e with h5 | h5
      · exact hne i k hil2 hkl h5 (by rw [b1, b2, e2])
      · exact hne k i hkl hil2 h5 (by rw [b1, b2, e2])
  · rw [List.getElem?_set_ne (by omega)] at hx
    exact h.rest k x (by omega) hx
/-- What the Loan's Kids are, behind it. -/
theorem RowsAt.keys {base gl cl : Nat} {w : World} {F : List Lk} {i : Nat} {G : List Lr} {m1 m2 : Value} (h : RowsAt base w F i G) (hl : w.ownsRow base 27 1 (.slice (some ⟨gl, 0, none⟩) (F.length + 2) cl) (F.length + 2) (F.map Lk.lv ++ [m1, m2])) (hs : F.length * 24 ≤ 140737488420864) :
    KeysAt w.heap.size w (.slice (some ⟨gl, 0, none⟩) F.length cl) (G.map fun y => ⟨y.z.lv, y.r.take y.z.k.length⟩) := by
  have hgl : G.length = F.length := by rw [← h.is, List.length_map]
  have h1 := CellsAt.of_own (ys := F.map Lk.lv) hl ⟨[m1, m2], rfl⟩
  rw [List.length_map] at h1
  refine ⟨?_, by rw [List.length_map, hgl]; exact hs, fun e he => ?_⟩
  · have e1 : (G.map fun y => (⟨y.z.lv, y.r.take y.z.k.length⟩ : Kc)).map Kc.v = F.map Lk.lv := by rw [← h.is, List.map_map, List.map_map]; rfl
    rw [e1]; exact h1
  · obtain ⟨y, hy, rfl⟩ := List.mem_map.1 he
    obtain ⟨_, h2, h3, h4⟩ := h.ok y hy
    exact brow_key h2 (by omega) (by omega) (by omega)
theorem RowsAt.lens {base : Nat} {w : World} {F : List Lk} {i : Nat} {G : List Lr} {L : List Kc} (h : RowsAt base w F i G) (hk : F.map Lk.k = keysOf L) : (G.map fun y => (⟨y.z.lv, y.r.take y.z.k.length⟩ : Kc)).map (fun e => e.k.length) = L.map (fun e => e.k.length) := by
  have e1 : (G.map fun y => (⟨y.z.lv, y.r.take y.z.k.length⟩ : Kc)).map (fun e => e.k.length) = G.map fun y => y.z.k.length := by
    rw [List.map_map]
    apply List.map_congr_left
    intro y hy
    obtain ⟨_, _, h3, _⟩ := h.ok y hy
    simp only [Function.comp_apply, List.length_take]
    omega
  have e2 : (G.map fun y => y.z.k.length) = (F.map Lk.k).map List.length := by rw [← h.is, List.map_map, List.map_map]; rfl
  rw [e1, e2, hk, keysOf, List.map_map]; rfl
theorem IRow.keepT {lo g B : Nat} {T : TypeId} {w w' : World} {ps : List Int} (h : IRow lo w g ps) (hk : Keep T B w w') (hT : 3 ≠ T) : IRow lo w' g ps := ⟨h.lo, hk.typ _ _ _ _ hT h.row⟩
end Go.Proofs.Ytaehchijeinloaa
