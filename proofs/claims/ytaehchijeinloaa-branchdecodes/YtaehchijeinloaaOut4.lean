/- ends: the lists are made longer. -/
import Derived.Test.YtaehchijeinloaaOut3
namespace Go.Proofs.Ytaehchijeinloaa
open Go.RowKit

theorem infoIs : (Try.prog.info? 23).map (fun i => (i.zero, i.size, i.bytes)) = some (some (.slice none 0 0), 1, 24) := by kernel_rfl
theorem infoIs' : ∃ i, Try.prog.info? 23 = some i ∧ i.zero = some (.slice none 0 0) ∧ i.size = 1 ∧ i.bytes = 24 := by
  have h := infoIs
  cases hi : Try.prog.info? 23 with
  | none => rw [hi] at h; simp at h
  | some i => rw [hi] at h; simp at h; exact ⟨i, rfl, h.1, h.2.1, h.2.2⟩
theorem infoBs : (Try.prog.info? 24).map (fun i => (i.zero, i.size, i.bytes)) = some (some (.slice none 0 0), 1, 24) := by kernel_rfl
theorem infoBs' : ∃ i, Try.prog.info? 24 = some i ∧ i.zero = some (.slice none 0 0) ∧ i.size = 1 ∧ i.bytes = 24 := by
  have h := infoBs
  cases hi : Try.prog.info? 24 with
  | none => rw [hi] at h; simp at h
  | some i => rw [hi] at h; simp at h; exact ⟨i, rfl, h.1, h.2.1, h.2.2⟩

/-- The eighth loop: lists are made longer. -/
structure E8 (b : Nat) (w0 : World) (r0 r : Ix → Option Rw) (vl vw : Value) (its : List Ko) (i : Nat) (mo li : Value) (ms qs : List Value) (w : World) : Prop where
  es : Es b w0 w r vl vw its
  fr : ∀ k n, 3 ≤ k → k ≤ 6 → r (k, n) = r0 (k, n)
  f1 : ∀ j, i ≤ j → r (1, j) = r0 (1, j)
  f2 : ∀ j, i ≤ j → r (2, j) = r0 (2, j)
  p1 : ∀ j e, j < i → its[j]? = some e → ∃ g, ms[j]? = some g ∧ r (1, j) = some ⟨3, 1, g, e.ps.length + 20, List.replicate (e.ps.length + 20) (encI (-1 - (j : Int)))⟩
  k1 : ∀ j e, j < i → its[j]? = some e → ∃ g us, qs[j]? = some g ∧ r (2, j) = some ⟨27, 1, g, e.F.length + 20, e.F.map Kc.v ++ us⟩ ∧ us.length = 20 ∧ ∀ t u, us[t]? = some u → r (11, 20 * j + t) = some ⟨5, 1, u, 1, [.int .u8 ((j : Int) % 256)]⟩
  hm : r (9, 0) = some ⟨23, 1, mo, i, ms⟩
  hl : r (10, 0) = some ⟨24, 1, li, i, qs⟩
  no : ∀ n, 20 * i ≤ n → r (11, n) = none
/-- Within it: of one. -/
structure E9 (b : Nat) (w0 : World) (r0 r : Ix → Option Rw) (vl vw : Value) (its : List Ko) (i : Nat) (mo li : Value) (ms qs : List Value) (e : Ko) (k : Nat) (x y : Value) (us : List Value) (w : World) : Prop where
  es : Es b w0 w r vl vw its
  fr : ∀ k n, 3 ≤ k → k ≤ 6 → r (k, n) = r0 (k, n)
  f1 : ∀ j, i < j → r (1, j) = r0 (1, j)
  f2 : ∀ j, i < j → r (2, j) = r0 (2, j)
  p1 : ∀ j e, j < i → its[j]? = some e → ∃ g, ms[j]? = some g ∧ r (1, j) = some ⟨3, 1, g, e.ps.length + 20, List.replicate (e.ps.length + 20) (encI (-1 - (j : Int)))⟩
  k1 : ∀ j e, j < i → its[j]? = some e → ∃ g us, qs[j]? = some g ∧ r (2, j) = some ⟨27, 1, g, e.F.length + 20, e.F.map Kc.v ++ us⟩ ∧ us.length = 20 ∧ ∀ t u, us[t]? = some u → r (11, 20 * j + t) = some ⟨5, 1, u, 1, [.int .u8 ((j : Int) % 256)]⟩
  hm : r (9, 0) = some ⟨23, 1, mo, i, ms⟩
  hl : r (10, 0) = some ⟨24, 1, li, i, qs⟩
  hx : r (1, i) = some ⟨3, 1, x, e.ps.length + k, List.replicate (e.ps.length + k) (encI (-1 - (i : Int)))⟩
  hy : r (2, i) = some ⟨27, 1, y, e.F.length + k, e.F.map Kc.v ++ us⟩
  ul : us.length = k
  u1 : ∀ t u, us[t]? = some u → r (11, 20 * i + t) = some ⟨5, 1, u, 1, [.int .u8 ((i : Int) % 256)]⟩
  no : ∀ n, 20 * i + k ≤ n → r (11, n) = none
theorem E8.inner {b : Nat} {w0 w : World} {r0 r : Ix → Option Rw} {vl vw : Value} {its : List Ko} {i : Nat} {mo li : Value} {ms qs : List Value} {e : Ko} (h : E8 b w0 r0 r vl vw its i mo li ms qs w) (hx : r0 (1, i) = some ⟨3, 1, e.vp, e.ps.length, List.replicate e.ps.length (encI (-1 - (i : Int)))⟩) (hy : r0 (2, i) = some ⟨27, 1, e.vk, e.F.length, e.F.map Kc.v⟩) :
    E9 b w0 r0 r vl vw its i mo li ms qs e 0 e.vp e.vk [] w :=
  ⟨h.es, h.fr, fun j hj => h.f1 j (by omega), fun j hj => h.f2 j (by omega), h.p1, h.k1, h.hm, h.hl, by rw [h.f1 i (Nat.le_refl _), hx]; rfl, by rw [h.f2 i (Nat.le_refl _), hy, List.append_nil]; rfl, rfl, fun t u hu => by simp at hu, fun n hn => h.no n hn⟩
theorem own_new1 (w : World) (T : TypeId) (x : Value) : (w.alloc (.cells #[x] T)).ownsRow w.heap.size T 1 (.slice (some ⟨w.heap.size, 0, none⟩) 1 1) 1 [x] :=
  own_block (heap_alloc_last w _) rfl (Nat.le_refl _) (by unfold maxLen; omega)
theorem ne1 {a b c d : Nat} (h : a ≠ c) : ((a, b) : Ix) ≠ (c, d) := fun e => h (congrArg Prod.fst e)
theorem ne2 {a b c d : Nat} (h : b ≠ d) : ((a, b) : Ix) ≠ (c, d) := fun e => h (congrArg Prod.snd e)
theorem Es.turnR {b : Nat} {w0 w w' : World} {r : Ix → Option Rw} {vl vw : Value} {its : List Ko} {P : Nat → Prop} (i : Ix) {x : Rw} {T z : Nat} {v : Value} {n : Nat} {xs : List Value} (h : Es b w0 w r vl vw its) (hi : r i = some x) (h0 : i ≠ (0, 0)) (hone : ∀ j, cls j = cls i → j ≠ i → r j = none) (hk : Kept P w w') (hP : ∀ k, P k → x.v.ownBlock = some k)
    (ho : w'.ownsRow (b + 1) T z v n xs) (hb : ∀ k, v.ownBlock = some k → x.v.ownBlock = some k ∨ w.heap.size ≤ k) : Es b w0 w' (put r i ⟨T, z, v, n, xs⟩) vl vw its := h.turn i _ hi h0 hone hk hP ho hb
theorem E9.next {b : Nat} {w0 w w2 w5 : World} {r0 r : Ix → Option Rw} {vl vw : Value} {its : List Ko} {i : Nat} {mo li : Value} {ms qs : List Value} {e : Ko} {k : Nat} {x y x2 y2 : Value} {us : List Value} (h : E9 b w0 r0 r vl vw its i mo li ms qs e k x y us w)
    (k1 : Kept (fun q => x.ownBlock = some q) (w.alloc (.cells #[.int .i64 (-1 - (i : Int))] 3)) w2) (o1 : w2.ownsRow (b + 1) 3 1 x2 (e.ps.length + k + 1) (List.replicate (e.ps.length + k) (encI (-1 - (i : Int))) ++ [.int .i64 (-1 - (i : Int))])) (b1 : ∀ q, x2.ownBlock = some q → x.ownBlock = some q ∨ (w.alloc (.cells #[.int .i64 (-1 - (i : Int))] 3)).heap.size ≤ q)
    (k2 : Kept (fun q => y.ownBlock = some q) ((w2.alloc (.cells #[.int .u8 ((i : Int) % 256)] 5)).alloc (.cells #[.slice (some ⟨w2.heap.size, 0, none⟩) 1 1] 27)) w5) (o2 : w5.ownsRow (b + 1) 27 1 y2 (e.F.length + k + 1) (e.F.map Kc.v ++ us ++ [.slice (some ⟨w2.heap.size, 0, none⟩) 1 1])) (b2 : ∀ q, y2.ownBlock = some q → y.ownBlock = some q ∨ ((w2.alloc (.cells #[.int .u8 ((i : Int) % 256)] 5)).alloc (.cells #[.slice (some ⟨w2.heap.size, 0, none⟩) 1 1] 27)).heap.size ≤ q) :
    ∃ r', E9 b w0 r0 r' vl vw its i mo li ms qs e (k + 1) x2 y2 (us ++ [.slice (some ⟨w2.heap.size, 0, none⟩) 1 1]) w5 := by
  have one : ∀ {i j : Ix}, i.1 ≠ 3 → i.1 ≠ 5 → cls j = cls i → j ≠ i → r j = none := fun h3 h5 hj hn => absurd (cls_one h3 h5 hj) hn
  have e1 := (h.es.here (below_new w (.cells #[.int .i64 (-1 - (i : Int))] 3))).turnR (1, i) h.hx (by simp) (fun j => one (by simp) (by simp)) k1 (fun k hk => hk) o1 b1
  have e2 := e1.more (11, 20 * i + k) ⟨5, 1, .slice (some ⟨w2.heap.size, 0, none⟩) 1 1, 1, [.int .u8 ((i : Int) % 256)]⟩ (by simp) (fun j hj => by rw [cls_one (by simp) (by simp) hj, put_other (ne1 (by omega))]; exact h.no _ (Nat.le_refl _)) (below_new w2 _) (own_new1 w2 _ _)
  have e3 := (e2.here (below_new (w2.alloc (.cells #[.int .u8 ((i : Int) % 256)] 5)) (.cells #[.slice (some ⟨w2.heap.size, 0, none⟩) 1 1] 27))).turnR (2, i) (by rw [put_other (ne1 (by omega)), put_other (ne1 (by omega))]; exact h.hy) (by simp) (fun j hj hn => absurd (cls_one (by simp) (by simp) hj) hn) k2 (fun k hk => hk) o2 b2
  have off : ∀ {a c : Nat}, (a ≠ 1 ∨ c ≠ i) → (a ≠ 2 ∨ c ≠ i) → (a ≠ 11 ∨ c ≠ 20 * i + k) → put (put (put r (1, i) ⟨3, 1, x2, e.ps.length + k + 1, List.replicate (e.ps.length + k) (encI (-1 - (i : Int))) ++ [.int .i64 (-1 - (i : Int))]⟩) (11, 20 * i + k) ⟨5, 1, .slice (some ⟨w2.heap.size, 0, none⟩) 1 1, 1, [.int .u8 ((i : Int) % 256)]⟩) (2, i) ⟨27, 1, y2, e.F.length + k + 1, e.F.map Kc.v ++ us ++ [.slice (some ⟨w2.heap.size, 0, none⟩) 1 1]⟩ (a, c) = r (a, c) := fun {a c} h1 h2 h3 => by
    rw [put_other (by rcases h2 with h | h; exact ne1 h; exact ne2 h), put_other (by rcases h3 with h | h; exact ne1 h; exact ne2 h), put_other (by rcases h1 with h | h; exact ne1 h; exact ne2 h)]
  refine ⟨_, e3, fun a n h3 h6 => ?_, fun j hj => ?_, fun j hj => ?_, fun j e' hj he' => ?_, fun j e' hj he' => ?_, ?_, ?_, ?_, ?_, by rw [List.length_append, h.ul]; rfl, fun t u hu => ?_, fun n hn => ?_⟩
  · rw [off (.inl (by omega)) (.inl (by omega)) (.inl (by omega))]; exact h.fr a n h3 h6
  · rw [off (.inr (by omega)) (.inl (by omega)) (.inl (by omega))]; exact h.f1 j hj
  · rw [off (.inl (by omega)) (.inr (by omega)) (.inl (by omega))]; exact h.f2 j hj
  · obtain ⟨g, h1, h2⟩ := h.p1 j e' hj he'
    exact ⟨g, h1, by rw [off (.inr (by omega)) (.inl (by omega)) (.inl (by omega))]; exact h2⟩
  · obtain ⟨g, vs, h1, h2, h3, h4⟩ := h.k1 j e' hj he'
    refine ⟨g, vs, h1, by rw [off (.inl (by omega)) (.inr (by omega)) (.inl (by omega))]; exact h2, h3, fun t u hu => ?_⟩
    have ht := (List.getElem?_eq_some_iff.1 hu).1
    rw [off (.inl (by omega)) (.inl (by omega)) (.inr (by omega))]
    exact h4 t u hu
  · rw [off (.inl (by omega)) (.inl (by omega)) (.inl (by omega))]; exact h.hm
  · rw [off (.inl (by omega)) (.inl (by omega)) (.inl (by omega))]; exact h.hl
  · rw [put_other (ne1 (by omega)), put_other (ne1 (by omega)), put_same, ← Nat.add_assoc, List.replicate_succ']; rfl
  · rw [put_same, ← Nat.add_assoc, List.append_assoc]
  · by_cases htk : t < us.length
    · rw [List.getElem?_append_left htk] at hu
      have := h.ul
      rw [off (.inl (by omega)) (.inl (by omega)) (.inr (by omega))]
      exact h.u1 t u hu
    · have ht := (List.getElem?_eq_some_iff.1 hu).1
      rw [List.length_append] at ht
      simp at ht
      have hul := h.ul
      obtain rfl : t = k := by omega
      rw [List.getElem?_append_right (by omega), hul, Nat.sub_self] at hu
      cases hu
      rw [put_other (ne1 (by omega)), put_same]
  · rw [off (.inl (by omega)) (.inl (by omega)) (.inr (by omega))]; exact h.no n (by omega)
theorem E9.last {b : Nat} {w0 w w2 w5 : World} {r0 r : Ix → Option Rw} {vl vw : Value} {its : List Ko} {i : Nat} {mo li mo2 li2 : Value} {ms qs : List Value} {e : Ko} {x y : Value} {us : List Value} (h : E9 b w0 r0 r vl vw its i mo li ms qs e 20 x y us w) (he : its[i]? = some e)
    (k1 : Kept (fun q => mo.ownBlock = some q) (w.alloc (.cells #[x] 23)) w2) (o1 : w2.ownsRow (b + 1) 23 1 mo2 (i + 1) (ms ++ [x])) (b1 : ∀ q, mo2.ownBlock = some q → mo.ownBlock = some q ∨ (w.alloc (.cells #[x] 23)).heap.size ≤ q)
    (k2 : Kept (fun q => li.ownBlock = some q) (w2.alloc (.cells #[y] 24)) w5) (o2 : w5.ownsRow (b + 1) 24 1 li2 (i + 1) (qs ++ [y])) (b2 : ∀ q, li2.ownBlock = some q → li.ownBlock = some q ∨ (w2.alloc (.cells #[y] 24)).heap.size ≤ q) :
    ∃ r', E8 b w0 r0 r' vl vw its (i + 1) mo2 li2 (ms ++ [x]) (qs ++ [y]) w5 := by
  have hml : ms.length = i := by have := (h.es.hp.get h.hm).1; simpa using this
  have hql : qs.length = i := by have := (h.es.hp.get h.hl).1; simpa using this
  have e1 := (h.es.here (below_new w (.cells #[x] 23))).turn (9, 0) ⟨23, 1, mo2, i + 1, ms ++ [x]⟩ h.hm (by simp) (fun j hj hn => absurd (cls_one (by simp) (by simp) hj) hn) k1 (fun k hk => hk) o1 b1
  have e2 := (e1.here (below_new w2 (.cells #[y] 24))).turn (10, 0) ⟨24, 1, li2, i + 1, qs ++ [y]⟩ (by rw [put_other (ne1 (by omega))]; exact h.hl) (by simp) (fun j hj hn => absurd (cls_one (by simp) (by simp) hj) hn) k2 (fun k hk => hk) o2 b2
  have off : ∀ {a c : Nat}, a ≠ 9 → a ≠ 10 → put (put r (9, 0) ⟨23, 1, mo2, i + 1, ms ++ [x]⟩) (10, 0) ⟨24, 1, li2, i + 1, qs ++ [y]⟩ (a, c) = r (a, c) := fun h1 h2 => by rw [put_other (ne1 h2), put_other (ne1 h1)]
  refine ⟨_, e2, fun a n h3 h6 => ?_, fun j hj => ?_, fun j hj => ?_, fun j e' hj he' => ?_, fun j e' hj he' => ?_, ?_, put_same _ _ _, fun n hn => ?_⟩
  · rw [off (by omega) (by omega)]; exact h.fr a n h3 h6
  · rw [off (by omega) (by omega)]; exact h.f1 j (by omega)
  · rw [off (by omega) (by omega)]; exact h.f2 j (by omega)
  · by_cases hji : j = i
    · subst hji
      rw [he] at he'
      cases he'
      exact ⟨x, by rw [List.getElem?_append_right (by omega), hml, Nat.sub_self]; rfl, by rw [off (by omega) (by omega)]; exact h.hx⟩
    · obtain ⟨g, h1, h2⟩ := h.p1 j e' (by omega) he'
      exact ⟨g, by rw [List.getElem?_append_left (by omega)]; exact h1, by rw [off (by omega) (by omega)]; exact h2⟩
  · by_cases hji : j = i
    · subst hji
      rw [he] at he'
      cases he'
      exact ⟨y, us, by rw [List.getElem?_append_right (by omega), hql, Nat.sub_self]; rfl, by rw [off (by omega) (by omega)]; exact h.hy, h.ul, fun t u hu => by rw [off (by omega) (by omega)]; exact h.u1 t u hu⟩
    · obtain ⟨g, vs, h1, h2, h3, h4⟩ := h.k1 j e' (by omega) he'
      exact ⟨g, vs, by rw [List.getElem?_append_left (by omega)]; exact h1, by rw [off (by omega) (by omega)]; exact h2, h3, fun t u hu => by rw [off (by omega) (by omega)]; exact h4 t u hu⟩
  · rw [put_other (ne1 (by omega)), put_same]
  · rw [off (by omega) (by omega)]; exact h.no n (by omega)
theorem E6.last {b : Nat} {w0 w : World} {r : Ix → Option Rw} {vl vw : Value} {its : List Ko} {i : Nat} {lv lg : Value} {gs : List Value} (h : E6 b w0 r vl vw its i lv lg gs w) : ∃ r', E8 b w0 r r' vl vw its 0 (.slice none 0 0) (.slice none 0 0) [] [] w := by
  have e1 := h.es.more (9, 0) ⟨23, 1, .slice none 0 0, 0, []⟩ (by simp) (fun j hj => by rw [cls_one (by simp) (by simp) hj]; exact h.no _ _ (by simp)) (Below.refl _ _) (World.ownsRow_nil _ _ _ _)
  have e2 := e1.more (10, 0) ⟨24, 1, .slice none 0 0, 0, []⟩ (by simp) (fun j hj => by rw [cls_one (by simp) (by simp) hj, put_other (ne1 (by omega))]; exact h.no _ _ (by simp)) (Below.refl _ _) (World.ownsRow_nil _ _ _ _)
  have off : ∀ {a c : Nat}, a ≠ 9 → a ≠ 10 → put (put r (9, 0) ⟨23, 1, .slice none 0 0, 0, []⟩) (10, 0) ⟨24, 1, .slice none 0 0, 0, []⟩ (a, c) = r (a, c) := fun h1 h2 => by rw [put_other (ne1 h2), put_other (ne1 h1)]
  exact ⟨_, e2, fun a n h3 h6 => off (by omega) (by omega), fun j _ => off (by omega) (by omega), fun j _ => off (by omega) (by omega), fun j e hj _ => absurd hj (by omega), fun j e hj _ => absurd hj (by omega), by rw [put_other (ne1 (by omega)), put_same], put_same _ _ _, fun n _ => by rw [off (by omega) (by omega)]; exact h.no _ _ (by omega)⟩
theorem E9.mid {b : Nat} {w0 w w2 : World} {r0 r : Ix → Option Rw} {vl vw : Value} {its : List Ko} {i : Nat} {mo li : Value} {ms qs : List Value} {e : Ko} {k : Nat} {x y x2 : Value} {us : List Value} (h : E9 b w0 r0 r vl vw its i mo li ms qs e k x y us w)
    (k1 : Kept (fun q => x.ownBlock = some q) (w.alloc (.cells #[.int .i64 (-1 - (i : Int))] 3)) w2) (o1 : w2.ownsRow (b + 1) 3 1 x2 (e.ps.length + k + 1) (List.replicate (e.ps.length + k) (encI (-1 - (i : Int))) ++ [.int .i64 (-1 - (i : Int))])) (b1 : ∀ q, x2.ownBlock = some q → x.ownBlock = some q ∨ (w.alloc (.cells #[.int .i64 (-1 - (i : Int))] 3)).heap.size ≤ q) :
    w2.ownsRow (b + 1) 27 1 y (e.F.length + k) (e.F.map Kc.v ++ us) ∧ b + 1 ≤ w2.heap.size := by
  have e1 := (h.es.here (below_new w (.cells #[.int .i64 (-1 - (i : Int))] 3))).turnR (1, i) h.hx (by simp) (fun j hj hn => absurd (cls_one (by simp) (by simp) hj) hn) k1 (fun k hk => hk) o1 b1
  exact ⟨e1.hp.get (i := (2, i)) (by rw [put_other (ne1 (by omega))]; exact h.hy), e1.hB⟩
theorem E9.mid2 {b : Nat} {w0 w w2 : World} {r0 r : Ix → Option Rw} {vl vw : Value} {its : List Ko} {i : Nat} {mo li mo2 : Value} {ms qs : List Value} {e : Ko} {x y : Value} {us : List Value} (h : E9 b w0 r0 r vl vw its i mo li ms qs e 20 x y us w)
    (k1 : Kept (fun q => mo.ownBlock = some q) (w.alloc (.cells #[x] 23)) w2) (o1 : w2.ownsRow (b + 1) 23 1 mo2 (i + 1) (ms ++ [x])) (b1 : ∀ q, mo2.ownBlock = some q → mo.ownBlock = some q ∨ (w.alloc (.cells #[x] 23)).heap.size ≤ q) :
    w2.ownsRow (b + 1) 24 1 li i qs ∧ b + 1 ≤ w2.heap.size := by
  have e1 := (h.es.here (below_new w (.cells #[x] 23))).turnR (9, 0) h.hm (by simp) (fun j hj hn => absurd (cls_one (by simp) (by simp) hj) hn) k1 (fun k hk => hk) o1 b1
  exact ⟨e1.hp.get (i := (10, 0)) (by rw [put_other (ne1 (by omega))]; exact h.hl), e1.hB⟩
theorem one_cellsN {w : World} {n : Nat} (h : n = w.heap.size) (T : TypeId) (x : Value) : CellsAt (w.alloc (.cells #[x] T)).heap.size (w.alloc (.cells #[x] T)) (.slice (some ⟨n, 0, none⟩) 1 1) [x] := by
  subst h
  exact one_cells w T x
theorem own_read {B T : Nat} {w : World} {v : Value} {n : Nat} {xs : List Value} (h : w.ownsRow B T 1 v n xs) (hn : 0 < n) : ∃ q c, v = .slice (some ⟨q, 0, none⟩) n c ∧ ∀ (j : Nat) (u : Value), xs[j]? = some u → w.cell? ⟨q, j, none⟩ = some u := by
  have hl : xs.length = n := by have := h.1; simpa using this
  rcases id h.2 with ⟨_, e⟩ | ⟨g, cap, cur, rfl, _⟩
  · omega
  · refine ⟨g, cap, rfl, fun j u hj => ?_⟩
    have hjl := (List.getElem?_eq_some_iff.1 hj).1
    rw [h.cellAt (j := j) (by omega)]
    exact hj
theorem rep_at {n j : Nat} {v : Value} (h : j < n) : (List.replicate n v)[j]? = some v := by rw [List.getElem?_replicate, if_pos h]
theorem encB_mkB (m : Nat) : encB (mkB m) = .int .u8 (1 + (m : Int) % 251) := by rw [mkB_int]; rfl
end Go.Proofs.Ytaehchijeinloaa
