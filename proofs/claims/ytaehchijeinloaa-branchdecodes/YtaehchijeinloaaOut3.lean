/- ends: keys are written over and made longer. -/
import Derived.Test.YtaehchijeinloaaOut2
import Derived.Test.YtaehchijeinloaaMarkB
namespace Go.Proofs.Ytaehchijeinloaa
open Go.RowKit

def mkB (n : Nat) : UInt8 := UInt8.ofNat (1 + n % 251)
theorem mkB_int (n : Nat) : 1 + (n : Int) % 251 = ((mkB n).toNat : Int) := by
  have : (mkB n).toNat = 1 + n % 251 := by
    unfold mkB
    rw [UInt8.toNat_ofNat']
    omega
  rw [this]
  omega
theorem cls_three {i : Nat} {j : Ix} (h : cls j = cls (3, i)) : j = (3, i) ∨ j = (5, i) := by
  obtain ⟨c, d⟩ := j
  unfold cls at h
  simp only at h
  by_cases e : c = 5
  · rw [if_pos e] at h
    simp at h
    exact .inr (by rw [e, h])
  · rw [if_neg e] at h
    simp at h
    exact .inl (by rw [h.1, h.2])
theorem row1_at {B T : Nat} {w : World} {v : Value} {n : Nat} {xs : List Value} (h : w.ownsRow B T 1 v n xs) {j : Nat} {u : Value} (hj : xs[j]? = some u) :
    ∃ g c, v = .slice (some ⟨g, 0, none⟩) n c ∧ w.cell? ⟨g, j, none⟩ = some u := by
  have hjl := (List.getElem?_eq_some_iff.1 hj).1
  have hl : xs.length = n := by have := h.1; simpa using this
  rcases id h.2 with ⟨_, e⟩ | ⟨g, cap, cur, rfl, _⟩
  · omega
  · exact ⟨g, cap, rfl, by rw [h.cellAt (j := j) (by omega)]; exact hj⟩
/-- Rows of one class change. -/
theorem Es.step {b : Nat} {w0 w w' : World} {r r' : Ix → Option Rw} {vl vw : Value} {its : List Ko} {P : Nat → Prop} (c : Ix) (h : Es b w0 w r vl vw its) (hc : c ≠ (0, 0)) (hk : Kept P w w') (hP : ∀ k, P k → ∃ i x, cls i = c ∧ r i = some x ∧ x.v.ownBlock = some k)
    (same : ∀ i, cls i ≠ c → r' i = r i)
    (new : ∀ i x, cls i = c → r' i = some x → x.Own (b + 1) w' ∧ ∀ k, x.v.ownBlock = some k → (∃ j y, cls j = c ∧ r j = some y ∧ y.v.ownBlock = some k) ∨ w.heap.size ≤ k) : Es b w0 w' r' vl vw its := by
  have hlow := h.hp.low hk (fun k hp => by obtain ⟨i, x, _, h2, h3⟩ := hP k hp; exact ⟨i, x, h2, h3⟩) h.hB
  exact ⟨(hlow.block b (Nat.lt_succ_self b)).trans h.box, h.hp.step c hk hP same new, h.low.trans hlow, Nat.le_trans h.hB hk.size, by rw [same (0, 0) (fun e => hc (e.symm.trans rfl))]; exact h.l⟩

/-- The fourth loop: keys are written over. -/
structure E4 (b : Nat) (w0 : World) (r : Ix → Option Rw) (vl vw : Value) (its : List Ko) (i : Nat) (lv : Value) (w : World) : Prop where
  es : Es b w0 w r vl vw its
  p : PAt r its fun j e => List.replicate e.ps.length (encI (-1 - (j : Int)))
  k : KAt r its
  y : YAt r (keysAll its) fun n e => if n < i then List.replicate e.k.length (encB (mkB n)) else e.k.map encB
  ks : r (4, 0) = some ⟨27, 1, lv, (keysAll its).length, (keysAll its).map Kc.v⟩
  no : ∀ k n, 5 ≤ k → r (k, n) = none
theorem E2.last {b : Nat} {w0 w : World} {r : Ix → Option Rw} {vl vw : Value} {its : List Ko} {lv : Value} (h : E2 b w0 r vl vw its its.length lv w) : E4 b w0 r vl vw its 0 lv w :=
  ⟨h.es, fun j e he => by
    have := h.p j e he
    dsimp only at this
    rw [if_pos (List.getElem?_eq_some_iff.1 he).1] at this
    exact this, h.k, fun n e he => by
    have := h.y n e he
    dsimp only
    rw [if_neg (by omega)]
    exact this, by have := h.ks; rw [List.take_length] at this; exact this, h.no⟩
theorem E4.mid {b : Nat} {w0 w w' : World} {r : Ix → Option Rw} {vl vw : Value} {its : List Ko} {i : Nat} {lv : Value} {e : Kc} (h : E4 b w0 r vl vw its i lv w) (he : (keysAll its)[i]? = some e) {xs : List Value} (hk : Kept (fun k => e.v.ownBlock = some k) w w') (ho : w'.ownsRow (b + 1) 5 1 e.v e.k.length xs) : w'.ownsRow (b + 1) 27 1 lv (keysAll its).length ((keysAll its).map Kc.v) :=
  (h.es.turn (3, i) ⟨5, 1, e.v, e.k.length, xs⟩ (h.y i e he) (by simp) (fun j hj hn => by
    rcases cls_three hj with e | e
    · exact absurd e hn
    · rw [e]; exact h.no _ _ (by simp)) hk (fun k hk => hk) ho (fun k hk => .inl hk)).hp.get (i := (4, 0)) (by rw [put_other (by simp)]; exact h.ks)
theorem E4.next {b : Nat} {w0 w w' : World} {r : Ix → Option Rw} {vl vw : Value} {its : List Ko} {i : Nat} {lv : Value} {e : Kc} (h : E4 b w0 r vl vw its i lv w) (he : (keysAll its)[i]? = some e) (hk : Kept (fun k => e.v.ownBlock = some k) w w') (ho : w'.ownsRow (b + 1) 5 1 e.v e.k.length (List.replicate e.k.length (encB (mkB i)))) :
    ∃ r', E4 b w0 r' vl vw its (i + 1) lv w' := by
  have e1 := h.es.turn (3, i) ⟨5, 1, e.v, e.k.length, List.replicate e.k.length (encB (mkB i))⟩ (h.y i e he) (by simp) (fun j hj hn => by
    rcases cls_three hj with e | e
    · exact absurd e hn
    · rw [e]; exact h.no _ _ (by simp)) hk (fun k hk => hk) ho (fun k hk => .inl hk)
  refine ⟨_, e1, fun j x hx => ?_, fun j x hx => ?_, fun j x hx => ?_, ?_, fun k n hkn => ?_⟩
  · rw [put_other (by simp)]; exact h.p j x hx
  · rw [put_other (by simp)]; exact h.k j x hx
  · by_cases hji : j = i
    · subst hji
      rw [he] at hx
      cases hx
      rw [put_same]
      dsimp only
      rw [if_pos (Nat.lt_succ_self _)]
    · rw [put_other (fun e => hji (congrArg Prod.snd e)), h.y j x hx]
      dsimp only
      by_cases hl : j < i
      · rw [if_pos hl, if_pos (by omega)]
      · rw [if_neg hl, if_neg (by omega)]
  · rw [put_other (by simp)]; exact h.ks
  · rw [put_other (fun e => by have := congrArg Prod.fst e; simp at this; omega)]; exact h.no k n hkn

/-- The sixth loop: keys are made longer. -/
structure E6 (b : Nat) (w0 : World) (r : Ix → Option Rw) (vl vw : Value) (its : List Ko) (i : Nat) (lv lg : Value) (gs : List Value) (w : World) : Prop where
  es : Es b w0 w r vl vw its
  p : PAt r its fun j e => List.replicate e.ps.length (encI (-1 - (j : Int)))
  k : KAt r its
  y : YAt r (keysAll its) fun n e => List.replicate e.k.length (encB (mkB n))
  ks : r (4, 0) = some ⟨27, 1, lv, (keysAll its).length, (keysAll its).map Kc.v⟩
  ls : r (6, 0) = some ⟨27, 1, lg, i, gs⟩
  z : ∀ n e, n < i → (keysAll its)[n]? = some e → ∃ g, gs[n]? = some g ∧ r (5, n) = some ⟨5, 1, g, e.k.length + 20, List.replicate (e.k.length + 20) (encB (mkB n))⟩
  no5 : ∀ n, i ≤ n → r (5, n) = none
  no : ∀ k n, 7 ≤ k → r (k, n) = none
theorem E4.last {b : Nat} {w0 w : World} {r : Ix → Option Rw} {vl vw : Value} {its : List Ko} {lv : Value} (h : E4 b w0 r vl vw its (keysAll its).length lv w) : ∃ r', E6 b w0 r' vl vw its 0 lv (.slice none 0 0) [] w := by
  refine ⟨_, h.es.more (6, 0) ⟨27, 1, .slice none 0 0, 0, []⟩ (by simp) (fun j hj => by rw [cls_one (by simp) (by simp) hj]; exact h.no _ _ (by simp)) (Below.refl _ _) (World.ownsRow_nil _ _ _ _), fun j e he => ?_, fun j e he => ?_, fun n e he => ?_, ?_, put_same _ _ _, fun n e hn => absurd hn (by omega), fun n _ => ?_, fun k n hk => ?_⟩
  · rw [put_other (by simp)]; exact h.p j e he
  · rw [put_other (by simp)]; exact h.k j e he
  · rw [put_other (by simp), h.y n e he]
    dsimp only
    rw [if_pos (List.getElem?_eq_some_iff.1 he).1]
  · rw [put_other (by simp)]; exact h.ks
  · rw [put_other (by simp)]; exact h.no 5 n (by omega)
  · rw [put_other (fun e => by have := congrArg Prod.fst e; simp at this; omega)]; exact h.no k n (by omega)
theorem Marked.kept {q : Option Nat} {m : UInt8} {w w' : World} (h : Marked q m w w') : Kept (fun k => q = some k) w w' := ⟨h.os, h.tape, h.output, h.size, fun k hk hs => h.other k hk hs⟩
theorem one_cells (w : World) (T : TypeId) (x : Value) : CellsAt (w.alloc (.cells #[x] T)).heap.size (w.alloc (.cells #[x] T)) (.slice (some ⟨w.heap.size, 0, none⟩) 1 1) [x] :=
  ⟨_, 1, rfl, Nat.le_refl _, (fun h => by cases h), fun j u hj => by
    have hj0 : j = 0 := by
      have := (List.getElem?_eq_some_iff.1 hj).1
      simp at this; omega
    subst hj0
    exact ⟨w.heap.size, 0, rfl, by simp, by rw [row_cell (heap_alloc_last w _)]; exact hj⟩⟩
theorem E6.next {b : Nat} {w0 w w1 w' : World} {r : Ix → Option Rw} {vl vw : Value} {its : List Ko} {i : Nat} {lv lg lg' x : Value} {gs : List Value} {e : Kc} (h : E6 b w0 r vl vw its i lv lg gs w) (he : (keysAll its)[i]? = some e) (hm : Marked e.v.ownBlock (mkB i) w w1) (hx : w1.ownsRow (b + 1) 5 1 x (e.k.length + 20) (List.replicate (e.k.length + 20) (encB (mkB i)))) (hxb : x.ownBlock = e.v.ownBlock ∨ ∃ g, x.ownBlock = some g ∧ w.heap.size ≤ g)
    (hk2 : Kept (fun k => lg.ownBlock = some k) (w1.alloc (.cells #[x] 27)) w') (ho2 : w'.ownsRow (b + 1) 27 1 lg' (i + 1) (gs ++ [x])) (hb2 : ∀ k, lg'.ownBlock = some k → lg.ownBlock = some k ∨ (w1.alloc (.cells #[x] 27)).heap.size ≤ k) :
    ∃ r', E6 b w0 r' vl vw its (i + 1) lv lg' (gs ++ [x]) w' := by
  have hgl : gs.length = i := by have := (h.es.hp.get h.ls).1; simpa using this
  have hkey := h.y i e he
  have e1 : Es b w0 w1 (put r (5, i) ⟨5, 1, x, e.k.length + 20, List.replicate (e.k.length + 20) (encB (mkB i))⟩) vl vw its := by
    refine h.es.step (cls (3, i)) (by simp [cls]) hm.kept (fun k hk => ⟨(3, i), _, rfl, hkey, hk⟩) (fun j hj => put_other fun e => hj (by rw [e]; rfl)) (fun j y hj hy => ?_)
    rcases cls_three hj with rfl | rfl
    · rw [put_other (by simp), hkey] at hy
      cases hy
      exact ⟨hm.row (h.es.hp.get hkey), fun k hk => .inl ⟨(3, i), _, rfl, hkey, hk⟩⟩
    · rw [put_same] at hy
      cases hy
      refine ⟨hx, fun k hk => ?_⟩
      rcases hxb with e1 | ⟨g, e1, hg⟩
      · exact .inl ⟨(3, i), _, rfl, hkey, by rw [← e1]; exact hk⟩
      · rw [e1] at hk
        cases hk
        exact .inr hg
  have e2 := e1.here (below_new w1 (.cells #[x] 27))
  have e3 := e2.turn (6, 0) ⟨27, 1, lg', i + 1, gs ++ [x]⟩ (by rw [put_other (by simp)]; exact h.ls) (by simp) (fun j hj hn => absurd (cls_one (by simp) (by simp) hj) hn) hk2 (fun k hk => hk) ho2 hb2
  refine ⟨_, e3, fun j y hy => ?_, fun j y hy => ?_, fun j y hy => ?_, ?_, put_same _ _ _, fun n y hn hy => ?_, fun n hn => ?_, fun k n hkn => ?_⟩
  · rw [put_other (by simp), put_other (by simp)]; exact h.p j y hy
  · rw [put_other (by simp), put_other (by simp)]; exact h.k j y hy
  · rw [put_other (by simp), put_other (by simp)]; exact h.y j y hy
  · rw [put_other (by simp), put_other (by simp)]; exact h.ks
  · by_cases hni : n = i
    · subst hni
      rw [he] at hy
      cases hy
      exact ⟨x, by rw [List.getElem?_append_right (by omega), hgl, Nat.sub_self]; rfl, by rw [put_other (by simp), put_same]⟩
    · obtain ⟨g, h1, h2⟩ := h.z n y (by omega) hy
      exact ⟨g, by rw [List.getElem?_append_left (by omega)]; exact h1, by rw [put_other (by simp), put_other (fun e => hni (congrArg Prod.snd e))]; exact h2⟩
  · rw [put_other (by simp), put_other (fun e => by have := congrArg Prod.snd e; simp at this; omega)]; exact h.no5 n (by omega)
  · rw [put_other (fun e => by have := congrArg Prod.fst e; simp at this; omega), put_other (fun e => by have := congrArg Prod.fst e; simp at this; omega)]; exact h.no k n hkn
theorem one_srcB (W : World) (i j : Nat) (hj : j < 1) : (W.alloc (.cells #[.int .u8 (1 + (i : Int) % 251)] 5)).cell? ((⟨W.heap.size, 0, none⟩ : Addr).add j) = some (encB (mkB i)) := by
  obtain rfl : j = 0 := by omega
  rw [add_at, Nat.zero_add, row_cell (heap_alloc_last W _), mkB_int]
  rfl
theorem own_oneV {w : World} {base e n : Nat} {v : Value} {xs : List Value} (h : w.ownsRow base e 1 v n xs) : v.oneCell' = true := by
  rcases h.2 with ⟨rfl, _⟩ | ⟨g, cap, cur, rfl, _⟩ <;> rfl
theorem E6.long {b : Nat} {w0 w w' : World} {r : Ix → Option Rw} {vl vw : Value} {its : List Ko} {i : Nat} {lv lg : Value} {gs : List Value} {e : Kc} (h : E6 b w0 r vl vw its i lv lg gs w) (he : (keysAll its)[i]? = some e) {m : UInt8} (hm : Marked e.v.ownBlock m w w') : w'.ownsRow (b + 1) 27 1 lg i gs :=
  hm.keep (h.es.hp.get h.ls) fun k hk hk' => absurd (h.es.hp.apart (6, 0) (3, i) _ _ k h.ls (h.y i e he) hk hk') (by simp [cls])
end Go.Proofs.Ytaehchijeinloaa
