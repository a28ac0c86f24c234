/- ends: what came out, while it is written over. -/
import Derived.Test.YtaehchijeinloaaOut1
import Derived.Deep.RegionHeldLaw
namespace Go.Proofs.Ytaehchijeinloaa
open Go.RowKit

/-- Kids that came out. -/
structure Ko where
  vp : Value
  vk : Value
  ps : List Int
  F : List Kc
def flat (its : List Ko) : List Value := its.flatMap fun e => [e.vp, e.vk]
theorem flat_length (its : List Ko) : (flat its).length = its.length * 2 := by
  induction its with
  | nil => rfl
  | cons a l ih => unfold flat at *; rw [List.flatMap_cons, List.length_append, ih, List.length_cons]; simp; omega
theorem flat_at {its : List Ko} {j : Nat} {e : Ko} (h : its[j]? = some e) : (flat its)[j * 2]? = some e.vp ∧ (flat its)[j * 2 + 1]? = some e.vk := by
  induction its generalizing j with
  | nil => cases h
  | cons a l ih =>
    unfold flat at *
    rw [List.flatMap_cons]
    cases j with
    | zero => cases h; exact ⟨rfl, rfl⟩
    | succ j =>
      rw [List.getElem?_cons_succ] at h
      have := ih h
      rw [List.getElem?_append_right (by simp; omega), List.getElem?_append_right (by simp; omega), show (j + 1) * 2 - [a.vp, a.vk].length = j * 2 by simp; omega, show (j + 1) * 2 + 1 - [a.vp, a.vk].length = j * 2 + 1 by simp; omega]
      exact this
def keysAll (its : List Ko) : List Kc := its.flatMap Ko.F
theorem keysAll_next {its : List Ko} {i : Nat} {e : Ko} (h : its[i]? = some e) : keysAll (its.take (i + 1)) = keysAll (its.take i) ++ e.F := by
  unfold keysAll
  rw [List.take_add_one, h, List.flatMap_append]
  simp
theorem keysAll_take_le (its : List Ko) (i : Nat) : (keysAll (its.take i)).length ≤ (keysAll its).length := by
  have : keysAll its = keysAll (its.take i) ++ keysAll (its.drop i) := by
    unfold keysAll
    rw [← List.flatMap_append, List.take_append_drop]
  rw [this, List.length_append]
  omega

/-- While ends goes on. -/
structure Es (b : Nat) (w0 w : World) (r : Ix → Option Rw) (vl vw : Value) (its : List Ko) : Prop where
  box : w.heap[b]? = some (.cells #[vl, vw] 41 (0, 0))
  hp : Hp (b + 1) w r
  low : Below (b + 1) w0 w
  hB : b + 1 ≤ w.heap.size
  l : r (0, 0) = some ⟨26, 2, vl, its.length, flat its⟩
theorem Es.cells {b : Nat} {w0 w : World} {r : Ix → Option Rw} {vl vw : Value} {its : List Ko} (h : Es b w0 w r vl vw its) : w.cell? ⟨b, 0, none⟩ = some vl ∧ w.cell? ⟨b, 1, none⟩ = some vw :=
  ⟨by rw [row_cell h.box]; rfl, by rw [row_cell h.box]; rfl⟩
theorem Es.here {b : Nat} {w0 w w' : World} {r : Ix → Option Rw} {vl vw : Value} {its : List Ko} (h : Es b w0 w r vl vw its) (hb : Below w.heap.size w w') : Es b w0 w' r vl vw its :=
  ⟨(hb.block b (Array.getElem?_eq_some_iff.1 h.box).1).trans h.box, h.hp.here hb, h.low.trans (hb.mono h.hB), Nat.le_trans h.hB hb.size, h.l⟩
theorem Es.rowL {b : Nat} {w0 w : World} {r : Ix → Option Rw} {vl vw : Value} {its : List Ko} (h : Es b w0 w r vl vw its) : w.ownsRow (b + 1) 26 2 vl its.length (flat its) := h.hp.own _ _ h.l
/-- Where the Kids stand. -/
theorem row2_at {B : Nat} {w : World} {v : Value} {n : Nat} {its : List Ko} (h : w.ownsRow B 26 2 v n (flat its)) {j : Nat} {e : Ko} (he : its[j]? = some e) :
    ∃ g c, v = .slice (some ⟨g, 0, none⟩) n c ∧ B ≤ g ∧ (∃ cur, w.heap[g]? = some (.cells cur 26 (0, 0))) ∧ w.cell? ⟨g, j * 2, none⟩ = some e.vp ∧ w.cell? ⟨g, j * 2 + 1, none⟩ = some e.vk := by
  obtain ⟨h1, h2⟩ := flat_at he
  have hl := (List.getElem?_eq_some_iff.1 h2).1
  rcases h.2 with ⟨_, e⟩ | ⟨g, cap, cur, rfl, hb, hg, _, _, _, ht⟩
  · have := h.1
    rw [e] at this
    omega
  · have hc : ∀ (k : Nat) (u : Value), (flat its)[k]? = some u → w.cell? ⟨g, k, none⟩ = some u := fun k u hk => by
      have hkl := (List.getElem?_eq_some_iff.1 hk).1
      have hn := h.1
      rw [row_cell hg]
      have := congrArg (fun l => l[k]?) ht
      simp only [List.getElem?_take, hk] at this
      rw [if_pos (by omega), Array.getElem?_toList] at this
      exact this
    exact ⟨g, cap, rfl, hb, ⟨cur, hg⟩, hc _ _ h1, hc _ _ h2⟩
theorem cls_one {i j : Ix} (h3 : i.1 ≠ 3) (h5 : i.1 ≠ 5) (h : cls j = cls i) : j = i := by
  obtain ⟨a, b⟩ := i
  obtain ⟨c, d⟩ := j
  unfold cls at h
  simp only at h h3 h5
  rw [if_neg h5] at h
  by_cases e : c = 5
  · rw [if_pos e] at h
    exact absurd (congrArg Prod.fst h).symm h3
  · rw [if_neg e] at h
    exact h
/-- One row changes. -/
theorem Es.turn {b : Nat} {w0 w w' : World} {r : Ix → Option Rw} {vl vw : Value} {its : List Ko} {P : Nat → Prop} (i : Ix) {x : Rw} (y : Rw) (h : Es b w0 w r vl vw its) (hi : r i = some x) (h0 : i ≠ (0, 0)) (hone : ∀ j, cls j = cls i → j ≠ i → r j = none) (hk : Kept P w w') (hP : ∀ k, P k → x.v.ownBlock = some k)
    (ho : y.Own (b + 1) w') (hb : ∀ k, y.v.ownBlock = some k → x.v.ownBlock = some k ∨ w.heap.size ≤ k) : Es b w0 w' (put r i y) vl vw its := by
  have hlow := h.hp.low hk (fun k hp => ⟨i, x, hi, hP k hp⟩) h.hB
  exact ⟨(hlow.block b (Nat.lt_succ_self b)).trans h.box, h.hp.turn hi hone hk hP ho hb, h.low.trans hlow, Nat.le_trans h.hB hk.size, by rw [put_other (Ne.symm h0)]; exact h.l⟩
theorem Es.more {b : Nat} {w0 w w' : World} {r : Ix → Option Rw} {vl vw : Value} {its : List Ko} (i : Ix) (y : Rw) (h : Es b w0 w r vl vw its) (h0 : i ≠ (0, 0)) (hone : ∀ j, cls j = cls i → r j = none) (hk : Below w.heap.size w w') (ho : y.Own w.heap.size w') : Es b w0 w' (put r i y) vl vw its :=
  ⟨(hk.block b h.hB).trans h.box, h.hp.more hone hk ho h.hB, h.low.trans (hk.mono h.hB), Nat.le_trans h.hB hk.size, by rw [put_other (Ne.symm h0)]; exact h.l⟩
def PAt (r : Ix → Option Rw) (its : List Ko) (f : Nat → Ko → List Value) : Prop := ∀ j e, its[j]? = some e → r (1, j) = some ⟨3, 1, e.vp, e.ps.length, f j e⟩
def KAt (r : Ix → Option Rw) (its : List Ko) : Prop := ∀ j e, its[j]? = some e → r (2, j) = some ⟨27, 1, e.vk, e.F.length, e.F.map Kc.v⟩
def YAt (r : Ix → Option Rw) (ky : List Kc) (f : Nat → Kc → List Value) : Prop := ∀ n e, ky[n]? = some e → r (3, n) = some ⟨5, 1, e.v, e.k.length, f n e⟩

/-- The second loop: pages are written over, keys gather. -/
structure E2 (b : Nat) (w0 : World) (r : Ix → Option Rw) (vl vw : Value) (its : List Ko) (i : Nat) (lv : Value) (w : World) : Prop where
  es : Es b w0 w r vl vw its
  p : PAt r its fun j e => if j < i then List.replicate e.ps.length (encI (-1 - (j : Int))) else e.ps.map encI
  k : KAt r its
  y : YAt r (keysAll its) fun _ e => e.k.map encB
  ks : r (4, 0) = some ⟨27, 1, lv, (keysAll (its.take i)).length, (keysAll (its.take i)).map Kc.v⟩
  no : ∀ k n, 5 ≤ k → r (k, n) = none
/-- Numbers, k of them written over. -/
def partI (m : Value) (xs : List Value) (k : Nat) : List Value := List.replicate k m ++ xs.drop k
theorem partI_zero (m : Value) (xs : List Value) : partI m xs 0 = xs := by simp [partI]
theorem partI_next {m : Value} {xs : List Value} {k : Nat} (hk : k < xs.length) : (partI m xs k).set k m = partI m xs (k + 1) := by
  unfold partI
  rw [List.set_append_right _ _ (by simp), List.drop_eq_getElem_cons hk, List.length_replicate, Nat.sub_self, List.set_cons_zero, List.replicate_succ', List.append_assoc]
  rfl
theorem partI_all {m : Value} {xs : List Value} {k : Nat} (hk : k = xs.length) : partI m xs k = List.replicate xs.length m := by subst hk; simp [partI]
theorem partI_length {m : Value} {xs : List Value} {k : Nat} (hk : k ≤ xs.length) : (partI m xs k).length = xs.length := by simp [partI]; omega
theorem E2.next {b : Nat} {w0 w w' : World} {r : Ix → Option Rw} {vl vw : Value} {its : List Ko} {i : Nat} {lv lv' : Value} {e : Ko} (h : E2 b w0 r vl vw its i lv w) (he : its[i]? = some e) {w1 : World} (hk1 : Kept (fun k => e.vp.ownBlock = some k) w w1) (ho1 : w1.ownsRow (b + 1) 3 1 e.vp e.ps.length (List.replicate e.ps.length (encI (-1 - (i : Int)))))
    (hk2 : Kept (fun k => lv.ownBlock = some k) w1 w') (ho2 : w'.ownsRow (b + 1) 27 1 lv' ((keysAll (its.take i)).length + (e.F.map Kc.v).length) ((keysAll (its.take i)).map Kc.v ++ e.F.map Kc.v)) (hb2 : ∀ k, lv'.ownBlock = some k → lv.ownBlock = some k ∨ w1.heap.size ≤ k) :
    ∃ r', E2 b w0 r' vl vw its (i + 1) lv' w' := by
  have e1 := h.es.turn (1, i) ⟨3, 1, e.vp, e.ps.length, List.replicate e.ps.length (encI (-1 - (i : Int)))⟩ (h.p i e he) (by simp) (fun j hj hn => absurd (cls_one (by simp) (by simp) hj) hn) hk1 (fun k hk => hk) ho1 (fun k hk => .inl hk)
  have hks : put r (1, i) ⟨3, 1, e.vp, e.ps.length, List.replicate e.ps.length (encI (-1 - (i : Int)))⟩ (4, 0) = some ⟨27, 1, lv, (keysAll (its.take i)).length, (keysAll (its.take i)).map Kc.v⟩ := by rw [put_other (by simp)]; exact h.ks
  have e2 := e1.turn (4, 0) ⟨27, 1, lv', (keysAll (its.take i)).length + (e.F.map Kc.v).length, (keysAll (its.take i)).map Kc.v ++ e.F.map Kc.v⟩ hks (by simp) (fun j hj hn => absurd (cls_one (by simp) (by simp) hj) hn) hk2 (fun k hk => hk) ho2 hb2
  refine ⟨_, e2, fun j x hx => ?_, fun j x hx => ?_, fun j x hx => ?_, ?_, fun k n hkn => ?_⟩
  · rw [put_other (by simp)]
    by_cases hji : j = i
    · subst hji
      rw [he] at hx
      cases hx
      rw [put_same]
      dsimp only
      rw [if_pos (Nat.lt_succ_self _)]
    · rw [put_other (fun e => hji (congrArg Prod.snd e)), h.p j x hx]
      dsimp only
      by_cases hl : j < i
      · rw [if_pos hl, if_pos (by omega)]
      · rw [if_neg hl, if_neg (by omega)]
  · rw [put_other (by simp), put_other (by simp)]; exact h.k j x hx
  · rw [put_other (by simp), put_other (by simp)]; exact h.y j x hx
  · rw [put_same, keysAll_next he, List.length_append, List.map_append, List.length_map]
  · rw [put_other (fun e => by have := congrArg Prod.fst e; simp at this; omega), put_other (fun e => by have := congrArg Prod.fst e; simp at this; omega)]; exact h.no k n hkn
theorem key_bound {its : List Ko} {i : Nat} {e : Ko} (h : its[i]? = some e) : (keysAll (its.take i)).length + e.F.length ≤ (keysAll its).length := by
  have := keysAll_take_le its (i + 1)
  rw [keysAll_next h, List.length_append] at this
  exact this
end Go.Proofs.Ytaehchijeinloaa
