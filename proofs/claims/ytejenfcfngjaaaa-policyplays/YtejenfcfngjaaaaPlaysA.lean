/- PolicyPlays: choosers side by side, and the document's. -/
import Derived.Test.YtejenfcfngjaaaaAllW
import Derived.Test.YtejenfcfngjaaaaRefN
namespace Go.Proofs.Ytejenfcfngjaaaa
open Go.RowKit

def ptr (b : Nat) : Value := .pointer (some ⟨b, 0, none⟩)
theorem infoPC : (Try.prog.info? 36).map (fun i => (i.zero, i.size, i.bytes)) = some (some (.pointer none), 1, 8) := by kernel_rfl
theorem infoPC' : ∃ i, Try.prog.info? 36 = some i ∧ i.zero = some (.pointer none) ∧ i.size = 1 ∧ i.bytes = 8 := by
  have h := infoPC
  cases hi : Try.prog.info? 36 with
  | none => rw [hi] at h; simp at h
  | some i => rw [hi] at h; simp at h; exact ⟨i, rfl, h⟩
theorem wpList_append_PC {w : World} {ops : Array Oper} {rest : List Oper} {o : Oper} {a : Act} {Q : Exit → Act → World → Prop} (hgd : o.guard = none) (s x : Operand)
    (ho : o.op = .call { callee := .builtin .append, args := #[s, x], argTypes := #[31, 31] }) (base : Nat)
    (v : Value) (n : Nat) (L : List Value) (r : Nat) (hs : a.eval s = v) (hv : w.ownsRow base 36 1 v n L) (g : Nat) (hx : a.eval x = .slice (some ⟨g, 0, none⟩) 1 1)
    (h0 : w.heap[g]? = some (.cells #[.pointer (some ⟨r, 0, none⟩)] 36 (0, 0)))
    (hlen : (n + 1) * 8 ≤ 140737488355328) (hbase : base ≤ w.heap.size)
    (h : ∀ v' w', w'.ownsRow base 36 1 v' (n + 1) (L ++ [.pointer (some ⟨r, 0, none⟩)]) → Keep 36 base w w' → wpList Try.prog ops Q rest (a.put o.dst v') w') : wpList Try.prog ops Q (o :: rest) a w := by
  obtain ⟨i0, hi, hz0, hz1, hz2⟩ := infoPC'
  refine wpList_append_own w hgd s x 31 ho base 36 i0 _ 1 8 Try.underlying31 hi hz0 hz1 hz2 rfl (by decide) _ _ _ hs hv ⟨g, 0, none⟩ 1 1 [.pointer (some ⟨r, 0, none⟩)] hx rfl ?_ (fun u hu => by simp at hu; rw [hu]; rfl) (by unfold maxLen; omega) hlen hbase ?_
  · intro j u hj
    rw [add_at, Nat.zero_add, row_cell h0, ← Array.getElem?_toList]
    exact hj
  · intro v' w' hown hgr _
    exact h v' w' hown (Keep.grown hv hgr hbase)
theorem infoPR : (Try.prog.info? 39).map (fun i => (i.zero, i.size, i.bytes)) = some (some (.pointer none), 1, 8) := by kernel_rfl
theorem infoPR' : ∃ i, Try.prog.info? 39 = some i ∧ i.zero = some (.pointer none) ∧ i.size = 1 ∧ i.bytes = 8 := by
  have h := infoPR
  cases hi : Try.prog.info? 39 with
  | none => rw [hi] at h; simp at h
  | some i => rw [hi] at h; simp at h; exact ⟨i, rfl, h⟩
theorem wpList_append_PR {w : World} {ops : Array Oper} {rest : List Oper} {o : Oper} {a : Act} {Q : Exit → Act → World → Prop} (hgd : o.guard = none) (s x : Operand)
    (ho : o.op = .call { callee := .builtin .append, args := #[s, x], argTypes := #[32, 32] }) (base : Nat)
    (v : Value) (n : Nat) (L : List Value) (r : Nat) (hs : a.eval s = v) (hv : w.ownsRow base 39 1 v n L) (g : Nat) (hx : a.eval x = .slice (some ⟨g, 0, none⟩) 1 1)
    (h0 : w.heap[g]? = some (.cells #[.pointer (some ⟨r, 0, none⟩)] 39 (0, 0)))
    (hlen : (n + 1) * 8 ≤ 140737488355328) (hbase : base ≤ w.heap.size)
    (h : ∀ v' w', w'.ownsRow base 39 1 v' (n + 1) (L ++ [.pointer (some ⟨r, 0, none⟩)]) → Keep 39 base w w' → wpList Try.prog ops Q rest (a.put o.dst v') w') : wpList Try.prog ops Q (o :: rest) a w := by
  obtain ⟨i0, hi, hz0, hz1, hz2⟩ := infoPR'
  refine wpList_append_own w hgd s x 32 ho base 39 i0 _ 1 8 Try.underlying32 hi hz0 hz1 hz2 rfl (by decide) _ _ _ hs hv ⟨g, 0, none⟩ 1 1 [.pointer (some ⟨r, 0, none⟩)] hx rfl ?_ (fun u hu => by simp at hu; rw [hu]; rfl) (by unfold maxLen; omega) hlen hbase ?_
  · intro j u hj
    rw [add_at, Nat.zero_add, row_cell h0, ← Array.getElem?_toList]
    exact hj
  · intro v' w' hown hgr _
    exact h v' w' hown (Keep.grown hv hgr hbase)
/-- A chooser, the document's beside it, in one state. -/
structure It where
  b : Nat
  v : Value
  d : Nat
  u : Value
  c : Ch
structure ItAt (base : Nat) (w : World) (s : It) : Prop where
  p : ChAt base w s.b s.v s.c
  r : RefAt base w s.d s.u s.c
structure PP (w wr : World) (lv rv : Value) (S : List It) : Prop where
  l : wr.ownsRow w.heap.size 36 1 lv S.length (S.map fun s => ptr s.b)
  r : wr.ownsRow w.heap.size 39 1 rv S.length (S.map fun s => ptr s.d)
  each : ∀ s ∈ S, ItAt w.heap.size wr s
  bs : (S.map It.b).Nodup
  ds : (S.map It.d).Nodup
  low : Below w.heap.size w wr
theorem ItAt.here {base : Nat} {w w' : World} {s : It} (h : ItAt base w s) (hb : Below w.heap.size w w') : ItAt base w' s := ⟨h.p.here hb, h.r.here hb⟩
theorem PP.below {w wr w' : World} {lv rv : Value} {S : List It} (h : PP w wr lv rv S) (hb : Below wr.heap.size wr w') : PP w w' lv rv S :=
  ⟨own_here h.l hb, own_here h.r hb, fun s hs => (h.each s hs).here hb, h.bs, h.ds, h.low.trans (hb.mono h.low.size)⟩
/-- What stays when blocks of a type are written alone. -/
theorem ChT.keep {T K : TypeId} {B base : Nat} {w w' : World} {b : Nat} {v : Value} {c : Ch} (h : ChT T base w b v c) (hk : Keep K B w w') (h1 : T ≠ K) (h2 : 3 ≠ K) : ChT T base w' b v c :=
  ⟨hk.typ _ _ _ _ h1 h.cells, own_same h.row (fun k e _ => by
    obtain ⟨_, _, cur, hc⟩ := own_type h.row k e
    rw [hc, hk.typ _ _ _ _ h2 hc]), h.low, h.ok⟩
theorem own_keep {K e : TypeId} {B base n s : Nat} {w w' : World} {v : Value} {xs : List Value} (h : w.ownsRow base e s v n xs) (hk : Keep K B w w') (h1 : e ≠ K) : w'.ownsRow base e s v n xs :=
  own_same h (fun k e _ => by
    obtain ⟨_, _, cur, hc⟩ := own_type h k e
    rw [hc, hk.typ _ _ _ _ h1 hc])
/-- Another block than those of a type. -/
theorem tag_ne {w : World} {g h : Nat} {c1 c2 : Array Value} {t1 t2 : TypeId} {z1 z2 : Nat × Nat} (h1 : w.heap[g]? = some (.cells c1 t1 z1)) (h2 : w.heap[h]? = some (.cells c2 t2 z2)) (ht : t1 ≠ t2) : g ≠ h := fun e => by
  rw [e, h2] at h1
  simp at h1
  exact ht h1.2.1.symm
/-- What stays when one chooser is asked. -/
theorem ChT.kept {T K : TypeId} {base : Nat} {w w' : World} {b g : Nat} {v : Value} {c : Ch} {cur : Array Value} (h : ChT T base w b v c) (hk : Kept (fun k => k = g) w w') (hg : w.heap[g]? = some (.cells cur K (0, 0))) (hb : b ≠ g) (h2 : 3 ≠ K) : ChT T base w' b v c :=
  ⟨by rw [hk.block b h.lt hb]; exact h.cells, own_kept h.row hk (fun k e => by
    obtain ⟨_, _, cur2, hc⟩ := own_type h.row k e
    exact tag_ne hc hg h2), h.low, h.ok⟩
theorem row_kept {K e : TypeId} {base n s g : Nat} {w w' : World} {v : Value} {xs : List Value} {cur : Array Value} (h : w.ownsRow base e s v n xs) (hk : Kept (fun k => k = g) w w') (hg : w.heap[g]? = some (.cells cur K (0, 0))) (h2 : e ≠ K) : w'.ownsRow base e s v n xs :=
  own_kept h hk (fun k e => by
    obtain ⟨_, _, cur2, hc⟩ := own_type h k e
    exact tag_ne hc hg h2)
theorem nodup_ne {α : Type} {f : α → Nat} {S : List α} (h : (S.map f).Nodup) {i j : Nat} {s t : α} (hs : S[i]? = some s) (ht : S[j]? = some t) (hij : i ≠ j) : f s ≠ f t := fun e => by
  obtain ⟨hi, rfl⟩ := List.getElem?_eq_some_iff.1 hs
  obtain ⟨hj, rfl⟩ := List.getElem?_eq_some_iff.1 ht
  have hp := List.pairwise_iff_getElem.1 h
  rcases Nat.lt_or_gt_of_ne hij with hl | hl
  · have := hp i j (by simpa using hi) (by simpa using hj) hl
    simp at this
    exact this e
  · have := hp j i (by simpa using hj) (by simpa using hi) hl
    simp at this
    exact this e.symm
theorem map_set_same {α β : Type} (f : α → β) {S : List α} {i : Nat} {s t : α} (hs : S[i]? = some s) (h : f t = f s) : (S.set i t).map f = S.map f := by
  rw [List.map_set, h]
  obtain ⟨hi, rfl⟩ := List.getElem?_eq_some_iff.1 hs
  have : f S[i] = (S.map f)[i]'(by simpa using hi) := by simp
  rw [this, List.set_getElem_self]
/-- Both are asked. -/
theorem PP.asked {w wr w2 w3 : World} {lv rv : Value} {S : List It} {i : Nat} {s : It} {c' : Ch} (h : PP w wr lv rv S) (hs : S[i]? = some s) (k2 : Kept (fun k => k = s.b) wr w2) (a2 : ChAt w.heap.size w2 s.b s.v c') (k3 : Kept (fun k => k = s.d) w2 w3) (a3 : RefAt w.heap.size w3 s.d s.u c') :
    PP w w3 lv rv (S.set i { s with c := c' }) := by
  have hI := h.each s (List.mem_of_getElem? hs)
  have hr2 : RefAt w.heap.size w2 s.d s.u s.c := hI.r.kept k2 hI.p.cells (tag_ne hI.r.cells hI.p.cells (by decide)) (by decide)
  have hlow2 : Below w.heap.size w w2 := Kept.below h.low k2 h.low.size (fun i e => by rw [e]; exact hI.p.low)
  refine ⟨?_, ?_, ?_, ?_, ?_, Kept.below hlow2 k3 hlow2.size (fun i e => by rw [e]; exact hI.r.low)⟩
  · rw [List.length_set, map_set_same (t := { s with c := c' }) (fun s => ptr s.b) hs rfl]
    exact row_kept (row_kept h.l k2 hI.p.cells (by decide)) k3 hr2.cells (by decide)
  · rw [List.length_set, map_set_same (t := { s with c := c' }) (fun s => ptr s.d) hs rfl]
    exact row_kept (row_kept h.r k2 hI.p.cells (by decide)) k3 hr2.cells (by decide)
  · intro t ht
    obtain ⟨j, hj⟩ := List.mem_iff_getElem?.1 ht
    rw [List.getElem?_set] at hj
    split at hj
    · split at hj
      · simp at hj
        subst hj
        exact ⟨a2.kept k3 hr2.cells (tag_ne a2.cells hr2.cells (by decide)) (by decide), a3⟩
      · cases hj
    · rename_i hne
      have hT := h.each t (List.mem_of_getElem? hj)
      have hb := nodup_ne h.bs hj hs (fun e => hne e.symm)
      have hd := nodup_ne h.ds hj hs (fun e => hne e.symm)
      have hr := hT.r.kept k2 hI.p.cells (tag_ne hT.r.cells hI.p.cells (by decide)) (by decide)
      have hp := hT.p.kept k2 hI.p.cells hb (by decide)
      exact ⟨hp.kept k3 hr2.cells (tag_ne hp.cells hr2.cells (by decide)) (by decide), hr.kept k3 hr2.cells hd (by decide)⟩
  · rw [map_set_same (t := { s with c := c' }) It.b hs rfl]; exact h.bs
  · rw [map_set_same (t := { s with c := c' }) It.d hs rfl]; exact h.ds
theorem PP.cellL {w wr : World} {lv rv : Value} {S : List It} {i : Nat} {s : It} (h : PP w wr lv rv S) (hs : S[i]? = some s) : ∃ g c, lv = .slice (some ⟨g, 0, none⟩) S.length c ∧ wr.cell? ⟨g, i, none⟩ = some (ptr s.b) := by
  rcases own_row h.l with ⟨_, h0⟩ | ⟨g, c, e, _, _, hc⟩
  · have := (List.getElem?_eq_some_iff.1 hs).1; omega
  · exact ⟨g, c, e, hc i _ (by rw [List.getElem?_map, hs]; rfl)⟩
theorem PP.cellR {w wr : World} {lv rv : Value} {S : List It} {i : Nat} {s : It} (h : PP w wr lv rv S) (hs : S[i]? = some s) : ∃ g c, rv = .slice (some ⟨g, 0, none⟩) S.length c ∧ wr.cell? ⟨g, i, none⟩ = some (ptr s.d) := by
  rcases own_row h.r with ⟨_, h0⟩ | ⟨g, c, e, _, _, hc⟩
  · have := (List.getElem?_eq_some_iff.1 hs).1; omega
  · exact ⟨g, c, e, hc i _ (by rw [List.getElem?_map, hs]; rfl)⟩
/-- One more of both. -/
theorem PP.more {w wr w2 w3 w4 : World} {lv rv lv' rv' : Value} {S : List It} {s : It} (h : PP w wr lv rv S) (hI : ItAt w.heap.size wr s) (hnb : ∀ t ∈ S, t.b ≠ s.b) (hnd : ∀ t ∈ S, t.d ≠ s.d)
    (k2 : Keep 36 w.heap.size wr w2) (a2 : w2.ownsRow w.heap.size 36 1 lv' (S.length + 1) ((S.map fun s => ptr s.b) ++ [ptr s.b])) (hb : Below w2.heap.size w2 w3)
    (k3 : Keep 39 w.heap.size w3 w4) (a3 : w4.ownsRow w.heap.size 39 1 rv' (S.length + 1) ((S.map fun s => ptr s.d) ++ [ptr s.d])) : PP w w4 lv' rv' (S ++ [s]) := by
  have hit : ∀ t, ItAt w.heap.size wr t → ItAt w.heap.size w4 t := fun t ht =>
    ⟨((ht.p.keep k2 (by decide) (by decide)).here hb).keep k3 (by decide) (by decide), ((ht.r.keep k2 (by decide) (by decide)).here hb).keep k3 (by decide) (by decide)⟩
  refine ⟨?_, ?_, ?_, ?_, ?_, (h.low.trans (k2.low.trans (hb.mono (Nat.le_trans h.low.size k2.low.size)))).trans k3.low⟩
  · rw [List.length_append, List.map_append]
    exact own_keep (own_here a2 hb) k3 (by decide)
  · rw [List.length_append, List.map_append]
    exact a3
  · intro t ht
    rcases List.mem_append.1 ht with ht | ht
    · exact hit t (h.each t ht)
    · simp at ht
      subst ht
      exact hit t hI
  · rw [List.map_append, List.nodup_append]
    refine ⟨h.bs, by simp, ?_⟩
    intro a ha b hb
    obtain ⟨t, ht, rfl⟩ := List.mem_map.1 ha
    simp at hb
    subst hb
    exact hnb t ht
  · rw [List.map_append, List.nodup_append]
    refine ⟨h.ds, by simp, ?_⟩
    intro a ha b hb
    obtain ⟨t, ht, rfl⟩ := List.mem_map.1 ha
    simp at hb
    subst hb
    exact hnd t ht
end Go.Proofs.Ytejenfcfngjaaaa
