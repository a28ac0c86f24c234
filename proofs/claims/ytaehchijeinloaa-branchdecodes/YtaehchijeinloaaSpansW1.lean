/- BranchSpans: its parts. -/
import Derived.Test.YtaehchijeinloaaStaysK2
import Derived.Test.YtaehchijeinloaaRefSpan
import Derived.Test.YtaehchijeinloaaR4SameM
namespace Go.Proofs.Ytaehchijeinloaa
open Go.RowKit

theorem snoc_len (k : Key) (x : UInt8) : (k ++ [x]).length = k.length + 1 := by simp
theorem newE (w : World) : NewKey w.heap.size (w.alloc (.cells #[] 5)) (.slice (some ⟨w.heap.size, 0, none⟩) 0 0) [] :=
  ⟨World.ownsRow_made w #[] 0 (Nat.le_refl _) (Nat.zero_le _) (by simp), by simp⟩
theorem NewKey.mid {base lo hi : Nat} {w w' : World} {v : Value} {k : Key} (h : NewKey base w v k) (hm : Mid lo hi w w') (hb : hi ≤ base) : NewKey base w' v k :=
  ⟨own_same h.1 fun g hg hl => hm.high g (Nat.le_trans hb (own_type h.1 g hg).2.1) hl, h.2⟩
theorem NewRange.mid {base lo hi : Nat} {w w' : World} {v : Value} {r : Rg} (h : NewRange base w v r) (hm : Mid lo hi w w') (hb : hi ≤ base) : NewRange base w' v r := by
  obtain ⟨v1, v2, e, h1, h2, h3⟩ := h.is
  exact ⟨v1, v2, e, h1.mid hm hb, h2.mid hm hb, h3⟩
theorem Box.mid {lo hi b : Nat} {w w' : World} {x y z : Value} (h : Box w b x y z) (hm : Mid lo hi w w') (hb : hi ≤ b) : Box w' b x y z := ⟨by rw [hm.high b hb h.lt]; exact h.row⟩
theorem Mid.mono {lo hi lo' hi' : Nat} {w w' : World} (h : Mid lo hi w w') (h1 : lo' ≤ lo) (h2 : hi ≤ hi') : Mid lo' hi' w w' := ⟨h.low.mono h1, fun k hk hl => h.high k (by omega) hl⟩
/-- A byte written into a key of new memory. -/
theorem NewKey.put {base g n c i : Nat} {w : World} {k : Key} {x : UInt8} (h : NewKey base w (.slice (some ⟨g, 0, none⟩) n c) k) (hi : i < n) : NewKey base (w.setCell ⟨g, i, none⟩ (.int .u8 (x.toNat : Int))) (.slice (some ⟨g, 0, none⟩) n c) (k.set i x) := by
  obtain ⟨⟨h0, h1⟩, h2⟩ := h
  refine ⟨⟨by simp, ?_⟩, by simpa using h2⟩
  rcases h1 with ⟨e, _⟩ | ⟨g', cap, cur, e, hb, hg, hc, hm, hs, ht⟩
  · cases e
  · simp only [Value.slice.injEq, Option.some.injEq, Addr.mk.injEq] at e
    obtain ⟨⟨rfl, _⟩, hn, rfl⟩ := e
    subst hn
    refine .inr ⟨g, c, cur.setIfInBounds i (.int .u8 (x.toNat : Int)), by rw [List.length_set], hb, heap_set_same _ hg, by rw [List.length_set]; exact hc, hm, by simpa using hs, ?_⟩
    rw [Array.toList_setIfInBounds, List.take_set, List.length_set, ht, List.map_set]
    rfl
theorem NewKey.byte {base g n c i : Nat} {w : World} {k : Key} {x : UInt8} (h : NewKey base w (.slice (some ⟨g, 0, none⟩) n c) k) (hi : k[i]? = some x) : w.cell? ⟨g, i, none⟩ = some (.int .u8 (x.toNat : Int)) ∧ w.frozen? ⟨g, i, none⟩ = false := by
  obtain ⟨g', c', e, h1⟩ := own_cell (i := i) (u := .int .u8 (x.toNat : Int)) h.1 (by rw [List.getElem?_map, hi]; rfl)
  simp only [Value.slice.injEq, Option.some.injEq, Addr.mk.injEq] at e
  obtain ⟨⟨rfl, _⟩, _, rfl⟩ := e
  obtain ⟨_, _, cur, hc⟩ := own_type h.1 g rfl
  exact ⟨h1, row_frozen hc _⟩

/-- A variable with the range that Span told. -/
structure SpanVar (W wx : World) (sv : Value) (q : Rg) : Prop where
  is : ∃ a v1 d1 v2 d2, sv = .pointer (some ⟨a, 0, none⟩) ∧ W.heap.size ≤ a ∧ Box wx a (.slice v1 q.lo.length d1) (.slice v2 q.hi.length d2) (.bool q.all) ∧ NewRange W.heap.size wx (.agg #[.slice v1 q.lo.length d1, .slice v2 q.hi.length d2, .bool q.all]) q ∧ Below W.heap.size W wx
theorem range_put3s {base b B : Nat} {w : World} {v x y z : Value} {r : Rg} (h : NewRange base w v r) (hB : Box w b x y z) (hb : B ≤ b) (x' y' z' : Value) : NewRange base (put3 w b x' y' z') v r := h.keep (hB.keeps hb x' y' z') (by decide)
theorem span_var_a {W w4 : World} {q : Rg} {v1 v2 : Option Addr} {d1 d2 : Nat} {Z : Obj} (hZ : Z = .cells #[.slice none 0 0, .slice none 0 0, .bool false] 47) (hb : Below (W.alloc Z).heap.size (W.alloc Z) w4) (hn : NewRange (W.alloc Z).heap.size w4 (.agg #[.slice v1 q.lo.length d1, .slice v2 q.hi.length d2, .bool q.all]) q) :
    SpanVar W (put3 w4 W.heap.size (.slice v1 q.lo.length d1) (.slice v2 q.hi.length d2) (.bool q.all)) (.pointer (some ⟨W.heap.size, 0, none⟩)) q := by
  subst hZ
  have hx : Box w4 W.heap.size (.slice none 0 0) (.slice none 0 0) (.bool false) := (Box.new W _ _ _).here hb
  have hl : Below W.heap.size W w4 := (below_new W _).trans (hb.mono (by simp))
  exact ⟨_, v1, d1, v2, d2, rfl, Nat.le_refl _, put3_box hx, range_put3s (hn.mono (by simp)) hx (Nat.le_refl _) _ _ _, put3_below hl (Nat.le_refl _) _ _ _⟩
theorem span_var_b {W w4 : World} {q : Rg} {v1 v2 : Option Addr} {d1 d2 : Nat} {Z : Obj} (hZ : Z = .cells #[.slice none 0 0, .slice none 0 0, .bool false] 47) (hb : Below W.heap.size W w4) (hn : NewRange W.heap.size w4 (.agg #[.slice v1 q.lo.length d1, .slice v2 q.hi.length d2, .bool q.all]) q) :
    SpanVar W (put3 (w4.alloc Z) w4.heap.size (.slice v1 q.lo.length d1) (.slice v2 q.hi.length d2) (.bool q.all)) (.pointer (some ⟨w4.heap.size, 0, none⟩)) q := by
  subst hZ
  have hx := Box.new w4 (.slice none 0 0) (.slice none 0 0) (.bool false)
  have hs := hb.size
  have hl : Below W.heap.size W (w4.alloc (.cells #[.slice none 0 0, .slice none 0 0, .bool false] 47)) := hb.trans ((below_new w4 _).mono hs)
  exact ⟨_, v1, d1, v2, d2, rfl, hs, put3_box hx, range_put3s (hn.here (below_new _ _)) hx hs _ _ _, put3_below hl hs _ _ _⟩
theorem span_var_c {W w4 : World} {q : Rg} {v1 v2 : Option Addr} {d1 d2 : Nat} (hb : Below W.heap.size W w4) (hn : NewRange W.heap.size w4 (.agg #[.slice v1 q.lo.length d1, .slice v2 q.hi.length d2, .bool q.all]) q) :
    SpanVar W (w4.alloc (.cells #[.slice v1 q.lo.length d1, .slice v2 q.hi.length d2, .bool q.all] 47)) (.pointer (some ⟨w4.heap.size, 0, none⟩)) q := by
  have hs := hb.size
  exact ⟨_, v1, d1, v2, d2, rfl, hs, Box.new w4 _ _ _, hn.here (below_new _ _), hb.trans ((below_new w4 _).mono hs)⟩
theorem SpanVar.drew {W wx : World} {sv : Value} {q : Rg} (h : SpanVar W wx sv q) : SpanVar W wx.drew sv q := by
  obtain ⟨a, v1, d1, v2, d2, h1, h2, h3, h4, h5⟩ := h.is
  exact ⟨a, v1, d1, v2, d2, h1, h2, h3.here (Below.refl _ _).drew, h4.here (Below.refl _ _).drew, h5.drew⟩

/-- What is lent reads as Kids. -/
theorem LoanAt.kids {base b : Nat} {w : World} {vq : Value} {ps : List Int} {F : List Lk} (h : LoanAt base w b vq ps F) (hs : ps.length * 8 ≤ 140737488355328) (hf : ∀ p ∈ ps, -9223372036854775808 ≤ p ∧ p ≤ 9223372036854775807) (hs2 : F.length * 24 ≤ 140737488420864) : KidsAt w.heap.size w vq ps (F.map Lk.kc) := by
  obtain ⟨gp, gl, cl, vk, m1, m2, rfl, _, _, hpg, _, hlr, hok, _⟩ := h.is
  refine ⟨_, _, rfl, hpg.ints hs hf _ (by omega), ?_⟩
  have h3 := (RowsAt.start hok).keys hlr hs2
  have e : ((F.map fun z => (⟨z, z.k ++ mk3⟩ : Lr)).map fun y => (⟨y.z.lv, y.r.take y.z.k.length⟩ : Kc)) = F.map Lk.kc := by
    rw [List.map_map]
    apply List.map_congr_left
    intro z _
    simp [Lk.kc]
  rw [e] at h3
  exact h3
theorem kc_keys {F : List Lk} {L : List Kc} (h : F.map Lk.k = keysOf L) (ps : List Int) : kd ps (F.map Lk.kc) = kd ps L := by
  unfold kd
  rw [Kd.mk.injEq]
  refine ⟨rfl, ?_⟩
  rw [← h, keysOf, List.map_map]; rfl
/-- A key of new memory but for its last byte. -/
theorem NewKey.front {base n c : Nat} {w : World} {a : Option Addr} {k : Key} {x : UInt8} (h : NewKey base w (.slice a (n + 1) c) (k ++ [x])) (hn : k.length = n) : KeyAt w (.slice a n c) k := by
  obtain ⟨⟨a', c', e, hb, hc, h0⟩, hs⟩ := h.at
  rw [snoc_len] at e hc hs
  simp only [Value.slice.injEq] at e
  obtain ⟨rfl, h1, rfl⟩ := e
  refine ⟨⟨a, c, by rw [hn], fun j y hj => hb j y ?_, by omega, h0⟩, by omega⟩
  rw [List.getElem?_append_left (List.getElem?_eq_some_iff.1 hj).1]; exact hj
/-- A range variable of the call's own. -/
structure OwnVar (W wx : World) (sv x y z : Value) : Prop where
  is : ∃ a, sv = .pointer (some ⟨a, 0, none⟩) ∧ W.heap.size ≤ a ∧ Box wx a x y z ∧ Below W.heap.size W wx
theorem own_var {W : World} {x y z : Value} {Z : Obj} (hZ : Z = .cells #[.slice none 0 0, .slice none 0 0, .bool false] 47) : OwnVar W (put3 (W.alloc Z) W.heap.size x y z) (.pointer (some ⟨W.heap.size, 0, none⟩)) x y z := by
  subst hZ
  exact ⟨_, rfl, Nat.le_refl _, put3_box (Box.new W _ _ _), put3_below (below_new W _) (Nat.le_refl _) _ _ _⟩
theorem own_var2 {W : World} {x y z : Value} : OwnVar W (W.alloc (.cells #[x, y, z] 47)) (.pointer (some ⟨W.heap.size, 0, none⟩)) x y z :=
  ⟨_, rfl, Nat.le_refl _, Box.new W _ _ _, below_new W _⟩
theorem OwnVar.drew {W wx : World} {sv x y z : Value} (h : OwnVar W wx sv x y z) : OwnVar W wx.drew sv x y z := by
  obtain ⟨a, h1, h2, h3, h4⟩ := h.is
  exact ⟨a, h1, h2, h3.here (Below.refl _ _).drew, h4.drew⟩
theorem NewKey.full {base : Nat} {w : World} {v : Value} {k : Key} (h : NewKey base w v k) (hk : 0 < k.length) : ∃ g c, v = .slice (some ⟨g, 0, none⟩) k.length c ∧ k.length ≤ c ∧ base ≤ g ∧ g < w.heap.size := by
  obtain ⟨h0, ⟨_, e⟩ | ⟨g, cap, cur, e, hb, hg, hc, _⟩⟩ := h.1
  · omega
  · exact ⟨g, cap, e, hc, hb, (Array.getElem?_eq_some_iff.1 hg).1⟩
/-- A row of new memory just so long. -/
structure KeyLen (base : Nat) (w : World) (v : Value) (n : Nat) : Prop where
  is : ∃ k, k.length = n ∧ NewKey base w v k
theorem KeyLen.other {base : Nat} {w w' : World} {v : Value} {n : Nat} (h : KeyLen base w v n) (hb : ∀ g, v.ownBlock = some g → g < w.heap.size → w'.heap[g]? = w.heap[g]?) : KeyLen base w' v n := by
  obtain ⟨k, e, h⟩ := h.is
  exact ⟨k, e, own_same h.1 hb, h.2⟩
/-- While the owner of what Span told writes into it. -/
structure Told (lo hi aa : Nat) (X wx : World) (x y z : Value) : Prop where
  mid : Mid lo hi X wx
  box : Box wx aa x y z
theorem Told.set {lo hi aa g n c i : Nat} {X wx : World} {x y z : Value} {u : UInt8} (h : Told lo hi aa X wx x y z) (hk : KeyLen lo wx (.slice (some ⟨g, 0, none⟩) n c) n) (hg : g < hi) (hi' : i < n) :
    Told lo hi aa X (wx.setCell ⟨g, i, none⟩ (.int .u8 (u.toNat : Int))) x y z ∧ KeyLen lo (wx.setCell ⟨g, i, none⟩ (.int .u8 (u.toNat : Int))) (.slice (some ⟨g, 0, none⟩) n c) n := by
  obtain ⟨k, rfl, hn⟩ := hk.is
  obtain ⟨_, hlo, cur, hc⟩ := own_type hn.1 g rfl
  have hne : aa ≠ g := tag_ne h.box.row hc (by decide)
  exact ⟨⟨h.mid.trans ((Only.set g i wx _).mid hlo hg), h.box.other _ hne⟩, ⟨_, by rw [List.length_set], hn.put hi'⟩⟩
theorem Told.grow {lo hi aa n : Nat} {X wx wA w' : World} {x y z v : Value} (h : Told lo hi aa X wx x y z) (hA : Below wx.heap.size wx wA) (hk : KeyLen lo wx v n) (hv : ∀ g, v.ownBlock = some g → g < hi) (hlo : lo ≤ wx.heap.size) (hg : wA.grownBy w' v.ownBlock) : Told lo hi aa X w' x y z := by
  obtain ⟨k, rfl, hn⟩ := hk.is
  have hn' := hn.here hA
  have hmid : Mid lo hi wx w' := by
    refine ⟨(hA.mono hlo).trans ((Below.refl _ _).grown hg (Nat.le_trans hlo hA.size) (fun q e => (own_type hn'.1 q e).2.1)), fun q hq hl => ?_⟩
    rw [hg.block q (Nat.lt_of_lt_of_le hl hA.size) (fun e => by have := hv q e.symm; omega)]
    exact hA.block q hl
  refine ⟨h.mid.trans hmid, ⟨?_⟩⟩
  rw [hg.block aa (Nat.lt_of_lt_of_le h.box.lt hA.size) (fun e => by
    obtain ⟨_, _, cur, hc⟩ := own_type hn.1 aa e.symm
    exact tag_ne h.box.row hc (by decide) rfl)]
  exact (h.box.here hA).row
theorem KeyLen.grow {lo n m : Nat} {wx wA w' : World} {v u : Value} (hu : KeyLen lo wx u m) (hA : Below wx.heap.size wx wA) (hap : ∀ g, v.ownBlock = some g → u.ownBlock ≠ some g) (hg : wA.grownBy w' v.ownBlock) (_ : KeyLen lo wx v n) : KeyLen lo w' u m :=
  hu.other fun g hgu hl => by
    rw [hg.block g (Nat.lt_of_lt_of_le hl hA.size) (fun e => hap g e.symm hgu)]
    exact hA.block g hl
theorem three_src (w : World) (u : Value) : ∀ (j : Nat) (x : Value), [u, u, u][j]? = some x → (w.alloc (.cells #[u, u, u] 5)).cell? ((⟨w.heap.size, 0, none⟩ : Addr).add j) = some x :=
  World.news_of_block (cs := #[u, u, u]) (heap_alloc_last w _)
/-- How long a range's keys may be. -/
structure Rg.Short (n : Nat) (r : Rg) : Prop where
  lo : r.lo.length ≤ n
  hi : r.hi.length ≤ n
theorem Rg.Short.form {n : Nat} {r : Rg} (h : r.Short n) : r.form.Short n := by
  unfold Rg.form
  split
  · exact ⟨by simp [Rg.zero], by simp [Rg.zero]⟩
  · split
    · exact ⟨h.lo, by simp⟩
    · exact h
theorem Rg.Short.meet {n : Nat} {r o : Rg} (h : r.Short n) (k : o.Short n) : (r.meet o).Short n := by
  refine Rg.Short.form ⟨?_, ?_⟩
  · show (if _ then _ else _ : Key).length ≤ _
    split
    · exact k.lo
    · exact h.lo
  · show (if _ then _ else _ : Key).length ≤ _
    split
    · exact k.hi
    · exact h.hi
theorem getD_le {ks : List Key} {i n : Nat} (h : ∀ k ∈ ks, k.length ≤ n) : (ks[i]?.getD []).length ≤ n := by
  cases hk : ks[i]? with
  | none => simp
  | some k => exact h k (List.mem_of_getElem? hk)
theorem spanR_short {n : Nat} {d : Kd} {r : Rg} {i : Int} (h : r.Short n) (hk : ∀ k ∈ d.ks, k.length ≤ n) : (spanR d r i).Short n := by
  unfold spanR
  split
  · refine h.meet ⟨?_, ?_⟩
    · unfold ownR; simp only; split
      · exact getD_le hk
      · simp
    · unfold ownR; simp only; split
      · exact getD_le hk
      · simp
  · exact ⟨by simp [Rg.zero], by simp [Rg.zero]⟩
end Go.Proofs.Ytaehchijeinloaa
