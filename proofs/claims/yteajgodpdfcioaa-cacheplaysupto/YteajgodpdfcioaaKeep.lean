/- keep: a list of numbers that came out, and a copy of it. -/
import Derived.Test.YteajgodpdfcioaaWs2
namespace Go.Proofs.Yteajgodpdfcioaa
open Go.RowKit Go.Maps

/-- Numbers onto a new, empty row, as a step of a region that draws its order. -/
theorem step_append_ints {w : World} {ops : Array Oper} {o : Oper} {a : Act} {K : Act → World → Prop} {Q : Exit → Act → World → Prop} {E : Prop} (hgd : o.guard = none) (s x : Operand)
    (ho : o.op = .call { callee := .builtin .append, args := #[s, x], argTypes := #[42, 42] }) (base : Nat)
    (g : Nat) (hs : a.eval s = .slice (some ⟨g, 0, none⟩) 0 0) (hown : w.ownsRow base 3 1 (.slice (some ⟨g, 0, none⟩) 0 0) 0 [])
    (lv : Value) (xs : List Int) (hx : a.eval x = lv) (hb : IntsAt w lv xs) (hlen : xs.length * 8 ≤ 140737488355328) (hbase : base ≤ w.heap.size)
    (h : ∀ ad c w', NewI base w' (.slice ad xs.length c) xs → w.grownBy w' (some g) → K (a.put o.dst (.slice ad xs.length c)) w') :
    if Region.wanted o (yielded ops a.tmps) = true then Oper.wp Try.prog o a w K Q else E := by
  have hw : Region.wanted o (yielded ops a.tmps) = true := by simp [Region.wanted, hgd]
  rw [if_pos hw]
  obtain ⟨i0, hi, hz0, hz1, hz2⟩ := infoI'
  obtain ⟨ao, c, rfl, hc, hn, hcell⟩ := hb.is
  cases ao with
  | none =>
    obtain rfl := hn rfl
    have h0 : xs = [] := List.eq_nil_of_length_eq_zero (by simpa using hc)
    subst h0
    have hrun := run_append_owned_none (P := Try.prog) (w := w) base 42 o.type 3 i0 1 Try.underlying42 hi _ 0 _ hown
    have hx' : a.eval x = .slice none 0 0 := hx
    have := h (some ⟨g, 0, none⟩) 0 w hown ⟨rfl, rfl, rfl, Nat.le_refl _, fun _ _ _ => rfl⟩
    unfold Oper.wp
    simp [execOp, ho, resolve, invoke, builtin, hs, hx', hrun, Result.andThen]
    exact this
  | some ad =>
    refine wp_append_own w s x 42 ho base 3 i0 (.int .i64 0) 1 8 Try.underlying42 hi hz0 hz1 hz2 rfl (by decide) _ 0 _ hs hown ad xs.length c (xs.map encI) hx (by simp) ?_ (fun u hu => by obtain ⟨p, _, rfl⟩ := List.mem_map.1 hu; rfl) (by unfold maxLen; omega) (by omega) hbase ?_
    · intro j u hj
      obtain ⟨g', off, e1, _, hc'⟩ := hcell j u hj
      cases e1
      rw [add_at]
      exact hc'
    · intro v' w' h1 h2 _
      simp only [Nat.zero_add, List.nil_append] at h1
      obtain ⟨ad', c', rfl⟩ := own_slice h1
      exact h ad' c' w' h1 h2
/-- The two lists of lists: what came out, and copies. -/
structure Bk (w : World) (vo vw : Value) (O N : List (Value × List Int)) : Prop where
  ro : w.ownsRow 0 42 1 vo O.length (O.map (·.1))
  rw_ : w.ownsRow 0 42 1 vw N.length (N.map (·.1))
  dv : ∀ k, vo.ownBlock = some k → vw.ownBlock ≠ some k
  outs : ∀ p ∈ O, NewI 0 w p.1 p.2
  copies : ∀ p ∈ N, NewI 0 w p.1 p.2
  same : O.map (·.2) = N.map (·.2)
  apart : O.Pairwise fun p q => ∀ k, p.1.ownBlock = some k → q.1.ownBlock ≠ some k
theorem Bk.stay {w w' : World} {vo vw : Value} {O N : List (Value × List Int)} (h : Bk w vo vw O N) (k : Stay w w') : Bk w' vo vw O N :=
  ⟨own_stay h.ro k (by decide) (by decide) (by decide) (by decide) (by decide) (by decide), own_stay h.rw_ k (by decide) (by decide) (by decide) (by decide) (by decide) (by decide), h.dv, fun p hp => own_stay (h.outs p hp) k (by decide) (by decide) (by decide) (by decide) (by decide) (by decide), fun p hp => own_stay (h.copies p hp) k (by decide) (by decide) (by decide) (by decide) (by decide) (by decide), h.same, h.apart⟩
theorem infoS : ∃ i, Try.prog.info? 42 = some i ∧ i.zero = some (.slice none 0 0) ∧ i.size = 1 ∧ i.bytes = 24 := by
  have h : (Try.prog.info? 42).map (fun i => (i.zero, i.size, i.bytes)) = some (some (.slice none 0 0), 1, 24) := by kernel_rfl
  cases hi : Try.prog.info? 42 with
  | none => rw [hi] at h; simp at h
  | some i => rw [hi] at h; simp at h; exact ⟨i, rfl, h⟩
/-- What keep leaves. -/
structure KeepPost (w : World) (W : Nat) (vc vl vr vo vw : Value) (O N : List (Value × List Int)) (lv : Value) (xs : List Int) (w' : World) (vo' vw' wv : Value) : Prop where
  head : w'.heap[W]? = some (.cells #[vc, vl, vr, vo', vw'] 30 (0, 0))
  bk : Bk w' vo' vw' (O ++ [(lv, xs)]) (N ++ [(wv, xs)])
  kept : Kept (fun k => k = W ∨ vo.ownBlock = some k ∨ vw.ownBlock = some k) w w'
  fresh : ∀ k, wv.ownBlock = some k → w.heap.size ≤ k
  oo : ∀ k, vo'.ownBlock = some k → vo.ownBlock = some k ∨ w.heap.size ≤ k
  ow : ∀ k, vw'.ownBlock = some k → vw.ownBlock = some k ∨ w.heap.size ≤ k
theorem keep_end {w w2 w4 w6 : World} {W : Nat} {vc vl vr vo vw lv wv : Value} {O N : List (Value × List Int)} {xs : List Int} {g1 k1 g6 k6 : Nat} (hW : w.heap[W]? = some (.cells #[vc, vl, vr, vo, vw] 30 (0, 0))) (h : Bk w vo vw O N) (hl : NewI 0 w lv xs) (hnew : ∀ p ∈ O, ∀ k, p.1.ownBlock = some k → lv.ownBlock ≠ some k)
    (k2 : Kept (fun k => k = W ∨ vo.ownBlock = some k ∨ vw.ownBlock = some k) w w2) (ro2 : w2.ownsRow 0 42 1 (.slice (some ⟨g1, 0, none⟩) (O.length + 1) k1) (O.length + 1) (O.map (·.1) ++ [lv])) (rw2 : w2.ownsRow 0 42 1 vw N.length (N.map (·.1))) (d1 : vw.ownBlock ≠ some g1) (at1 : vo.ownBlock = some g1 ∨ w.heap.size ≤ g1) (hg1 : g1 ≠ W) (aw : vw.ownBlock ≠ some W)
    (f4 : ∀ k, k < w2.heap.size → w4.heap[k]? = w2.heap[k]?) (s4 : w2.heap.size < w4.heap.size) (st : w4.os = w2.os ∧ w4.tape = w2.tape ∧ w4.output = w2.output) (n4 : NewI 0 w4 wv xs) (fr : ∀ k, wv.ownBlock = some k → w.heap.size ≤ k)
    (o6 : w6.ownsRow 0 42 1 (.slice (some ⟨g6, 0, none⟩) (N.length + 1) k6) (N.length + 1) (N.map (·.1) ++ [wv])) (g6' : (w4.alloc (.cells #[wv] 42)).grownBy w6 vw.ownBlock) (a6 : vw.ownBlock = some g6 ∨ g6 = (w4.alloc (.cells #[wv] 42)).heap.size)
    (b6 : w6.heap[W]? = some (.cells #[vc, vl, vr, .slice (some ⟨g1, 0, none⟩) (O.length + 1) k1, vw] 30 (0, 0))) :
    KeepPost w W vc vl vr vo vw O N lv xs (w6.setCell ⟨W, 4, none⟩ (.slice (some ⟨g6, 0, none⟩) (N.length + 1) k6)) (.slice (some ⟨g1, 0, none⟩) (O.length + 1) k1) (.slice (some ⟨g6, 0, none⟩) (N.length + 1) k6) wv := by
  have hWl : W < w.heap.size := (Array.getElem?_eq_some_iff.1 hW).1
  have sA : (w4.alloc (.cells #[wv] 42)).heap.size = w4.heap.size + 1 := by simp
  have hg6W : g6 ≠ W := fun e => by
    rcases a6 with h' | h'
    · exact aw (e ▸ h')
    · have := k2.size; omega
  -- what stays from w2 on
  have far : ∀ k, k < w2.heap.size → k ≠ W → vw.ownBlock ≠ some k → (w6.setCell ⟨W, 4, none⟩ (.slice (some ⟨g6, 0, none⟩) (N.length + 1) k6)).heap[k]? = w2.heap[k]? := fun k hk h1 h2 => by
    rw [set_far0 _ h1, g6'.block k (by omega) (fun e => h2 e.symm), (below_new w4 _).block k (by omega)]
    exact f4 k hk
  have kk : Kept (fun k => k = W ∨ vo.ownBlock = some k ∨ vw.ownBlock = some k) w (w6.setCell ⟨W, 4, none⟩ (.slice (some ⟨g6, 0, none⟩) (N.length + 1) k6)) := by
    refine ⟨g6'.os.trans (st.1.trans k2.os), g6'.tape.trans (st.2.1.trans k2.tape), g6'.output.trans (st.2.2.trans k2.output), ?_, fun k hk hS => ?_⟩
    · have h1 := k2.size
      have h2 := g6'.size
      show w.heap.size ≤ (w6.setCell _ _).heap.size
      simp [World.setCell]
      omega
    · rw [far k (by have := k2.size; omega) (fun e => hS (.inl e)) (fun e => hS (.inr (.inr e)))]
      exact k2.block k hk hS
  have ints : ∀ (v : Value) (l : List Int), NewI 0 w v l → NewI 0 (w6.setCell ⟨W, 4, none⟩ (.slice (some ⟨g6, 0, none⟩) (N.length + 1) k6)) v l := fun v l hv => own_kept hv kk (fun j hj e => by
    obtain ⟨_, _, cur, hc⟩ := own_type hv j hj
    rcases e with e | e | e
    · rw [e, hW] at hc; simp at hc
    · obtain ⟨_, _, cur', hc'⟩ := own_type h.ro j e; rw [hc'] at hc; simp at hc
    · obtain ⟨_, _, cur', hc'⟩ := own_type h.rw_ j e; rw [hc'] at hc; simp at hc)
  refine ⟨(heap_set_same _ b6).trans (by simp), ⟨?_, ?_, ?_, fun p hp => ?_, fun p hp => ?_, ?_, ?_⟩, kk, fr, fun k hk => by cases hk; exact at1, fun k hk => by
    cases hk
    exact a6.imp id fun e => by have := k2.size; show w.heap.size ≤ g6; omega⟩
  · rw [List.length_append, List.map_append]
    refine own_same ro2 fun k hk hl' => ?_
    cases hk
    exact far g1 hl' hg1 d1
  · rw [List.length_append, List.map_append]
    exact own_kept o6 (setCell_kept _) (fun j hj e => by cases hj; exact hg6W e)
  · intro k hk hk'
    cases hk
    cases hk'
    rcases a6 with h' | h'
    · exact d1 h'
    · have := (own_type ro2 g1 rfl).1
      simp at h'
      omega
  · rcases List.mem_append.1 hp with hp | hp
    · exact ints p.1 p.2 (h.outs p hp)
    · simp at hp
      subst hp
      exact ints _ _ hl
  · rcases List.mem_append.1 hp with hp | hp
    · exact ints p.1 p.2 (h.copies p hp)
    · simp at hp
      subst hp
      refine own_same n4 fun k hk hl' => ?_
      obtain ⟨_, _, cur, hc⟩ := own_type n4 k hk
      have hkW : k ≠ W := fun e => by
        have h1 := f4 W (by have := k2.size; omega)
        have h2 : w6.heap[W]? = w4.heap[W]? := by rw [g6'.block W (by have := k2.size; omega) (fun e => aw e.symm), (below_new w4 _).block W (by have := k2.size; omega)]
        rw [e, ← h2, b6] at hc
        simp at hc
      have hkv : vw.ownBlock ≠ some k := fun e => by
        obtain ⟨hlt, _, cur', hc'⟩ := own_type h.rw_ k e
        have h1 : w2.heap[k]? = some (.cells cur 3 (0, 0)) := by rw [← f4 k (by have := k2.size; omega)]; exact hc
        obtain ⟨_, _, cur2, hc2⟩ := own_type rw2 k e
        rw [h1] at hc2
        simp at hc2
      rw [set_far0 _ hkW, g6'.block k (by omega) (fun e => hkv e.symm), (below_new w4 _).block k hl']
  · rw [List.map_append, List.map_append, h.same]
    rfl
  · rw [List.pairwise_append]
    refine ⟨h.apart, by simp, fun p hp q hq k hk => ?_⟩
    simp at hq
    subst hq
    exact hnew p hp k hk
set_option maxHeartbeats 1600000 in
set_option maxRecDepth 100000 in
theorem keep_any {w : World} {W : Nat} {vc vl vr vo vw lv : Value} {O N : List (Value × List Int)} {xs : List Int} (hW : w.heap[W]? = some (.cells #[vc, vl, vr, vo, vw] 30 (0, 0))) (h : Bk w vo vw O N) (hl : NewI 0 w lv xs) (hnew : ∀ p ∈ O, ∀ k, p.1.ownBlock = some k → lv.ownBlock ≠ some k) (hO : O.length ≤ 1099511627776) (hx : xs.length ≤ 1099511627776) :
    Calls Try.prog 26 #[ptr W, lv] w fun r w' => r = .returned (.tuple #[]) ∧ ∃ vo' vw' wv, KeepPost w W vc vl vr vo vw O N lv xs w' vo' vw' wv := by
  obtain ⟨i0, hi, hz0, hz1, hz2⟩ := infoS
  obtain ⟨al, cl, rfl⟩ := own_slice hl
  have hWl : W < w.heap.size := (Array.getElem?_eq_some_iff.1 hW).1
  have hNl : N.length = O.length := by have := congrArg List.length h.same; simpa using this.symm
  have ao : vo.ownBlock ≠ some W := fun e => by
    obtain ⟨_, _, cur, hc⟩ := own_type h.ro W e
    rw [hW] at hc
    simp at hc
  have aw : vw.ownBlock ≠ some W := fun e => by
    obtain ⟨_, _, cur, hc⟩ := own_type h.rw_ W e
    rw [hW] at hc
    simp at hc
  have d3 : w.cell? ⟨W, 3, none⟩ = some vo := by rw [row_cell hW]; rfl
  obtain ⟨a3, c3, e3⟩ := own_slice h.ro
  obtain ⟨a4, c4, e4⟩ := own_slice h.rw_
  have HH : Hid (Bk w vo vw O N) := h
  have HW : Hid (w.heap[W]? = some (.cells #[vc, vl, vr, vo, vw] 30 (0, 0))) := hW
  have HL : Hid (NewI 0 w (.slice al xs.length cl) xs) := hl
  have HV : Hid ((w.alloc (.cells #[.slice al xs.length cl] 42)).ownsRow 0 42 1 vo O.length (O.map (·.1))) := own_here h.ro (below_new _ _)
  have HNEW : Hid (∀ (j : Nat) (u : Value), [Value.slice al xs.length cl][j]? = some u → (w.alloc (.cells #[.slice al xs.length cl] 42)).cell? ((⟨w.heap.size, 0, none⟩ : Addr).add j) = some u) := fun j u hj => by
    rw [add_at, row_cell (heap_alloc_last w _), Nat.zero_add, ← Array.getElem?_toList]
    exact hj
  have HNW : Hid (∀ p ∈ O, ∀ k, p.1.ownBlock = some k → (Value.slice al xs.length cl).ownBlock ≠ some k) := hnew
  have HLN : Hid (O.length ≤ 1099511627776 ∧ xs.length ≤ 1099511627776 ∧ N.length = O.length) := ⟨hO, hx, hNl⟩
  have HAW : Hid (vo.ownBlock ≠ some W ∧ vw.ownBlock ≠ some W) := ⟨ao, aw⟩
  clear h hW hl hnew hO hx hNl ao aw
  subst e3 e4
  go_enter Try.func26, Try.ntmps26
  go_upto_region 1 with (
    at_builtin
    refine wpList_append_lies _ rfl _ _ 28 rfl 0 42 i0 _ 1 24 Try.underlying28 hi hz0 hz1 hz2 rfl (by decide) (.slice a3 O.length c3) O.length (O.map (·.1)) rfl HV.out ⟨w.heap.size, 0, none⟩ 1 1 [.slice al xs.length cl] rfl rfl HNEW.out (fun u hu => by simp at hu; subst hu; rfl) (by decide) (by have := HLN.out.1; unfold maxLen; omega) (by have := HLN.out.1; omega) (Nat.zero_le _) _ rfl ?_
    intro g1 k1 w1 ho1 hg1 hat1 hlt1
    have hb1 : w1.heap[W]? = _ := (hg1.block W (by simp; omega) (fun e => HAW.out.1 e.symm)).trans (((below_new w _).block W hWl).trans HW.out)
    have p3 : w1.cell? ⟨W, 3, none⟩ = some (.slice a3 O.length c3) := by rw [row_cell hb1]; rfl
    have pf : w1.frozen? ⟨W, 3, none⟩ = false := row_frozen hb1 _
    have HO1 : Hid (w1.ownsRow 0 42 1 (.slice (some ⟨g1, 0, none⟩) (O.length + 1) k1) (O.length + 1) (O.map (·.1) ++ [.slice al xs.length cl])) := ho1
    have HG1 : Hid ((w.alloc (.cells #[.slice al xs.length cl] 42)).grownBy w1 (Value.slice a3 O.length c3).ownBlock) := hg1
    have HA1 : Hid ((Value.slice a3 O.length c3).ownBlock = some g1 ∨ g1 = (w.alloc (.cells #[.slice al xs.length cl] 42)).heap.size) := hat1
    have HB1 : Hid (w1.heap[W]? = some (.cells #[vc, vl, vr, .slice a3 O.length c3, .slice a4 N.length c4] 30 (0, 0))) := hb1
    clear ho1 hg1 hat1 hlt1 hb1)
  obtain ⟨w2, hw2⟩ : ∃ w2, w2 = w1.setCell ⟨W, 3, none⟩ (.slice (some ⟨g1, 0, none⟩) (O.length + 1) k1) := ⟨_, rfl⟩
  have hb2 : w2.heap[W]? = some (.cells #[vc, vl, vr, .slice (some ⟨g1, 0, none⟩) (O.length + 1) k1, .slice a4 N.length c4] 30 (0, 0)) := by rw [hw2]; exact (heap_set_same _ HB1.out).trans (by simp)
  have hk2 : Kept (fun k => k = W ∨ (Value.slice a3 O.length c3).ownBlock = some k ∨ (Value.slice a4 N.length c4).ownBlock = some k) w w2 := by
    rw [hw2]
    exact ((Kept.of_below (below_new w _)).trans (Kept.of_grown (S := fun k => (Value.slice a3 O.length c3).ownBlock = some k) HG1.out (fun _ e => e)) (fun _ _ e => .inr (.inl e))).trans (setCell_kept _) (fun _ _ e => .inl e)
  have hg1W : g1 ≠ W := fun e => by
    rcases HA1.out with h | h
    · exact HAW.out.1 (e ▸ h)
    · simp at h; omega
  have hro2 : w2.ownsRow 0 42 1 (.slice (some ⟨g1, 0, none⟩) (O.length + 1) k1) (O.length + 1) (O.map (·.1) ++ [.slice al xs.length cl]) := by
    rw [hw2]
    exact own_kept HO1.out (setCell_kept _) (fun j hj e => by cases hj; exact hg1W e)
  have hrw2 : w2.ownsRow 0 42 1 (.slice a4 N.length c4) N.length (N.map (·.1)) := by
    refine own_same HH.out.rw_ fun k hk hl => ?_
    rw [hw2, set_far0 _ (by rintro rfl; exact HAW.out.2 hk), HG1.out.block k (by simp; omega) (fun e => HH.out.dv k e.symm hk), (below_new w _).block k hl]
  have hli2 : NewI 0 w2 (.slice al xs.length cl) xs := own_kept HL.out hk2 (fun j hj e => by
    obtain ⟨_, _, cur, hc⟩ := own_type HL.out j hj
    rcases e with e | e | e
    · rw [e, HW.out] at hc; simp at hc
    · obtain ⟨_, _, cur', hc'⟩ := own_type HH.out.ro j e; rw [hc'] at hc; simp at hc
    · obtain ⟨_, _, cur', hc'⟩ := own_type HH.out.rw_ j e; rw [hc'] at hc; simp at hc)
  rw [← hw2]
  have HB2 : Hid (w2.heap[W]? = some (.cells #[vc, vl, vr, .slice (some ⟨g1, 0, none⟩) (O.length + 1) k1, .slice a4 N.length c4] 30 (0, 0))) := hb2
  have HK2 : Hid (Kept (fun k => k = W ∨ (Value.slice a3 O.length c3).ownBlock = some k ∨ (Value.slice a4 N.length c4).ownBlock = some k) w w2) := hk2
  have HRO2 : Hid (w2.ownsRow 0 42 1 (.slice (some ⟨g1, 0, none⟩) (O.length + 1) k1) (O.length + 1) (O.map (·.1) ++ [.slice al xs.length cl])) := hro2
  have HRW2 : Hid (w2.ownsRow 0 42 1 (.slice a4 N.length c4) N.length (N.map (·.1))) := hrw2
  have HLI2 : Hid (NewI 0 w2 (.slice al xs.length cl) xs) := hli2
  have HD1 : Hid ((Value.slice a4 N.length c4).ownBlock ≠ some g1) := fun e => by
    rcases HA1.out with h | h
    · exact HH.out.dv g1 h e
    · have := (own_type HH.out.rw_ g1 e).1; simp at h; omega
  have D4 : w2.cell? ⟨W, 4, none⟩ = some (.slice a4 N.length c4) := by rw [row_cell hb2]; rfl
  have hWl2 : W < w2.heap.size := (Array.getElem?_eq_some_iff.1 hb2).1
  clear hw2 hb2 hk2 hro2 hrw2 hli2 p3 pf d3
  obtain ⟨w3, hw3⟩ : ∃ w3, w3 = (w2.alloc (.cells #[] 3)).drew := ⟨_, rfl⟩
  have hb3 : Below w2.heap.size w2 w3 := by rw [hw3]; exact (below_new w2 _).drew
  have HE3 : Hid (w3.ownsRow w2.heap.size 3 1 (.slice (some ⟨w2.heap.size, 0, none⟩) 0 0) 0 []) := by
    rw [hw3]
    exact World.ownsRow_made w2 #[] 0 (Nat.le_refl _) (Nat.zero_le _) rfl
  have HI3 : Hid (IntsAt w3 (.slice al xs.length cl) xs) := RowAt.own (own_here HLI2.out hb3)
  have HB3 : Hid (Below w2.heap.size w2 w3) := hb3
  have HW3 : Hid (w3 = (w2.alloc (.cells #[] 3)).drew) := hw3
  have hs3 : w2.heap.size < w3.heap.size := by rw [hw3]; show w2.heap.size < (w2.alloc _).heap.size; simp
  have HS3 : Hid (w2.heap.size < w3.heap.size) := hs3
  clear hb3 hw3 hs3
  go_region_law
    (first
      | (rw [← HW3.out]
         refine step_append_ints (by rfl) _ _ (by rfl) w2.heap.size w2.heap.size (by rfl) (by exact HE3.out) (.slice al xs.length cl) xs (by rfl) (by exact HI3.out) (by have := HLN.out.2.1; omega) (by exact Nat.le_of_lt HS3.out) ?_
         intro ad c w4 hn4 hg4
         have hb4 : w4.heap[W]? = _ := (hg4.block W (by have := HS3.out; omega) (fun e => by cases e; omega)).trans ((HB3.out.block W hWl2).trans HB2.out)
         have E4 : w4.cell? ⟨W, 4, none⟩ = some (.slice a4 N.length c4) := by rw [row_cell hb4]; rfl
         have HN4 : Hid (NewI w2.heap.size w4 (.slice ad xs.length c) xs) := hn4
         have HG4 : Hid (w3.grownBy w4 (some w2.heap.size)) := hg4
         have HB4 : Hid (w4.heap[W]? = some (.cells #[vc, vl, vr, .slice (some ⟨g1, 0, none⟩) (O.length + 1) k1, .slice a4 N.length c4] 30 (0, 0))) := hb4
         have HF4 : Hid (∀ k, k < w2.heap.size → w4.heap[k]? = w2.heap[k]?) := fun k hk => (hg4.block k (by have := HS3.out; omega) (fun e => by cases e; omega)).trans (HB3.out.block k hk)
         have hWl4 : W < w4.heap.size := (Array.getElem?_eq_some_iff.1 hb4).1
         have HRW5 : Hid ((w4.alloc (.cells #[.slice ad xs.length c] 42)).ownsRow 0 42 1 (.slice a4 N.length c4) N.length (N.map (·.1))) := own_here (own_same HRW2.out fun k _ hk => HF4.out k hk) (below_new _ _)
         have HNEW5 : Hid (∀ (j : Nat) (u : Value), [Value.slice ad xs.length c][j]? = some u → (w4.alloc (.cells #[.slice ad xs.length c] 42)).cell? ((⟨w4.heap.size, 0, none⟩ : Addr).add j) = some u) := fun j u hj => by
           rw [add_at, row_cell (heap_alloc_last w4 _), Nat.zero_add, ← Array.getElem?_toList]
           exact hj
         clear hn4 hg4 hb4)
      | (refine step_append_lies _ (by rfl) _ _ 28 (by rfl) 0 42 i0 _ 1 24 Try.underlying28 hi hz0 hz1 hz2 rfl (by decide) (.slice a4 N.length c4) N.length (N.map (·.1)) (by rfl) (by exact HRW5.out) ⟨w4.heap.size, 0, none⟩ 1 1 [.slice ad xs.length c] (by rfl) rfl (by exact HNEW5.out) (fun u hu => by simp at hu; subst hu; rfl) (by decide) (by have := HLN.out; unfold maxLen; omega) (by have := HLN.out; omega) (Nat.zero_le _) _ rfl ?_
         intro g6 k6 w6 ho6 hg6 hat6 hlt6
         have hb6 : w6.heap[W]? = _ := (hg6.block W (by simp; omega) (fun e => HAW.out.2 e.symm)).trans (((below_new w4 _).block W hWl4).trans HB4.out)
         have E6 : w6.cell? ⟨W, 4, none⟩ = some (.slice a4 N.length c4) := by rw [row_cell hb6]; rfl
         have F6 : w6.frozen? ⟨W, 4, none⟩ = false := row_frozen hb6 _
         have HO6 : Hid (w6.ownsRow 0 42 1 (.slice (some ⟨g6, 0, none⟩) (N.length + 1) k6) (N.length + 1) (N.map (·.1) ++ [.slice ad xs.length c])) := ho6
         have HG6 : Hid ((w4.alloc (.cells #[.slice ad xs.length c] 42)).grownBy w6 (Value.slice a4 N.length c4).ownBlock) := hg6
         have HA6 : Hid ((Value.slice a4 N.length c4).ownBlock = some g6 ∨ g6 = (w4.alloc (.cells #[.slice ad xs.length c] 42)).heap.size) := hat6
         have HB6 : Hid (w6.heap[W]? = some (.cells #[vc, vl, vr, .slice (some ⟨g1, 0, none⟩) (O.length + 1) k1, .slice a4 N.length c4] 30 (0, 0))) := hb6
         clear ho6 hg6 hat6 hlt6 hb6))
  all_goals
    go_wp2_with fail
    go_end0
    exact ⟨rfl, _, _, _, keep_end HW.out HH.out HL.out HNW.out HK2.out HRO2.out HRW2.out HD1.out (HA1.out.imp id fun e => by simp at e; omega) hg1W HAW.out.2 HF4.out (by have h1 := HS3.out; have h2 := HG4.out.size; omega) ⟨HG4.out.os.trans HB3.out.os, HG4.out.tape.trans HB3.out.tape, HG4.out.output.trans HB3.out.output⟩ (own_mono HN4.out (Nat.zero_le _)) (fun k hk => Nat.le_trans HK2.out.size (own_type HN4.out k hk).2.1) HO6.out HG6.out HA6.out HB6.out⟩
end Go.Proofs.Yteajgodpdfcioaa
