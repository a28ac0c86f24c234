/- The law's caches side by side: of numbers, of lists, and the document's. -/
import Derived.Test.YteajgodpdfcioaaFrame
import Derived.Test.YteajgodpdfcioaaLFrame
import Derived.Test.YteajgodpdfcioaaRefPutY
namespace Go.Proofs.Yteajgodpdfcioaa
open Go.RowKit Go.Maps

/-- All memory but that of caches, the document's too, stays. -/
structure Stay (w w' : World) : Prop where
  is : ∀ (k : Nat) (cur : Array Value) (t : TypeId) z, t ≠ 71 → t ≠ 68 → t ≠ 83 → t ≠ 86 → t ≠ 64 → t ≠ 89 → w.heap[k]? = some (.cells cur t z) → w'.heap[k]? = some (.cells cur t z)
  big : w.heap.size ≤ w'.heap.size
theorem Stay.size {w w' : World} (h : Stay w w') : w.heap.size ≤ w'.heap.size := h.big
theorem Stay.refl (w : World) : Stay w w := ⟨fun _ _ _ _ _ _ _ _ _ _ h => h, Nat.le_refl _⟩
theorem Stay.trans {a b c : World} (h : Stay a b) (k : Stay b c) : Stay a c := ⟨fun i cur t z h1 h2 h3 h4 h5 h6 hi => k.is i cur t z h1 h2 h3 h4 h5 h6 (h.is i cur t z h1 h2 h3 h4 h5 h6 hi), Nat.le_trans h.big k.big⟩
theorem Stay.of {w w' : World} (h : Still w w') (hs : w.heap.size ≤ w'.heap.size) : Stay w w' := ⟨fun i cur t z h1 h2 h3 h4 _ _ hi => h.is i cur t z h1 h2 h3 h4 hi, hs⟩
theorem Stay.below {w w' : World} (h : Below w.heap.size w w') : Stay w w' := Stay.of (Still.below h) h.size
theorem own_stay {w w' : World} {base e n k : Nat} {v : Value} {xs : List Value} (ho : w.ownsRow base e k v n xs) (hs : Stay w w') (h1 : e ≠ 71) (h2 : e ≠ 68) (h3 : e ≠ 83) (h4 : e ≠ 86) (h5 : e ≠ 64) (h6 : e ≠ 89) : w'.ownsRow base e k v n xs := by
  obtain ⟨hl, h⟩ := ho
  refine ⟨hl, ?_⟩
  rcases h with h | ⟨g, cap, cur, rfl, hb, hg, hc⟩
  · exact .inl h
  · exact .inr ⟨g, cap, cur, rfl, hb, hs.is g cur e _ h1 h2 h3 h4 h5 h6 hg, hc⟩
theorem RefAt.lt {U : Nat} {own : Nat → Prop} {w : World} {b : Nat} {s : Ca Int} (h : RefAt U own w b s) {k : Nat} (hk : own k) : k < w.heap.size := by
  obtain ⟨lv, h, ho⟩ := h
  rcases (ho k).1 hk with rfl | hk
  · exact (Array.getElem?_eq_some_iff.1 h.cells).1
  · exact (own_type h.row k hk).1
theorem RefAt.typ {U : Nat} {own : Nat → Prop} {w : World} {b : Nat} {s : Ca Int} (h : RefAt U own w b s) {k : Nat} (hk : own k) : ∃ cur t, w.heap[k]? = some (.cells cur t (0, 0)) ∧ (t = 64 ∨ t = 89) := by
  obtain ⟨lv, h, ho⟩ := h
  rcases (ho k).1 hk with rfl | hk
  · exact ⟨_, _, h.cells, .inl rfl⟩
  · obtain ⟨_, _, cur, hc⟩ := own_type h.row k hk
    exact ⟨_, _, hc, .inr rfl⟩
theorem RefAt.beside {U : Nat} {own S : Nat → Prop} {w w' : World} {b : Nat} {s : Ca Int} (h : RefAt U own w b s) (hk : Kept S w w') (ha : ∀ i, own i → ¬ S i) : RefAt U own w' b s := by
  have hl := fun k (hk : own k) => h.lt hk
  obtain ⟨lv, h, ho⟩ := h
  exact ⟨lv, h.same fun k hk' => hk.block k (hl k ((ho k).2 hk')) (ha k ((ho k).2 hk')), ho⟩
theorem RefAt.mono {U U' : Nat} {own : Nat → Prop} {w : World} {b : Nat} {s : Ca Int} (h : RefAt U own w b s) (hU : U ≤ U') : RefAt U' own w b s := by
  obtain ⟨lv, h, ho⟩ := h
  exact ⟨lv, h.mono hU, ho⟩
theorem RNext.stay {U : Nat} {own : Nat → Prop} {w w' : World} {b : Nat} {s s' : Ca Int} (k : RefAt U own w b s) (h : RNext U own w b s' w') : Stay w w' := by
  obtain ⟨_, _, _, h3⟩ := h
  refine ⟨fun i cur t z h1 h2 h3' h4 h5 h6 hi => ?_, h3.size⟩
  rw [h3.block i (Array.getElem?_eq_some_iff.1 hi).1 (fun ho => by
    obtain ⟨cur', t', hc, ht⟩ := k.typ ho
    rw [hc] at hi
    simp at hi
    rcases ht with ht | ht
    · exact h5 (hi.2.1.symm.trans ht)
    · exact h6 (hi.2.1.symm.trans ht))]
  exact hi
/-- What a call does to all else: it stays, and all below a border. -/
structure Moves (B : Nat) (w w' : World) : Prop where
  stay : Stay w w'
  low : Below B w w'
theorem Moves.refl (B : Nat) (w : World) : Moves B w w := ⟨Stay.refl w, Below.refl _ _⟩
theorem Moves.trans {B : Nat} {a b c : World} (h : Moves B a b) (k : Moves B b c) : Moves B a c := ⟨h.stay.trans k.stay, h.low.trans k.low⟩
theorem Moves.below {B : Nat} {w w' : World} (h : Below w.heap.size w w') (hB : B ≤ w.heap.size) : Moves B w w' := ⟨Stay.below h, h.mono hB⟩
theorem Moves.is {B : Nat} {w w' : World} (h : Moves B w w') : ∀ (k : Nat) (cur : Array Value) (t : TypeId) z, t ≠ 71 → t ≠ 68 → t ≠ 83 → t ≠ 86 → t ≠ 64 → t ≠ 89 → w.heap[k]? = some (.cells cur t z) → w'.heap[k]? = some (.cells cur t z) := h.stay.is
theorem Moves.size {B : Nat} {w w' : World} (h : Moves B w w') : w.heap.size ≤ w'.heap.size := h.low.size
/-- A function turned at one place. -/
def at_ {α : Type} (f : Nat → α) (i : Nat) (v : α) : Nat → α := fun k => if k = i then v else f k
theorem at_same {α : Type} (f : Nat → α) (i : Nat) (v : α) : at_ f i v i = v := by simp [at_]
theorem at_other {α : Type} {f : Nat → α} {i k : Nat} {v : α} (h : k ≠ i) : at_ f i v k = f k := by simp [at_, h]
/-- The caches of the law: n of each kind. -/
structure Wo (B U n : Nat) (w : World) (cs ls rs : Nat → Nat) (SC SL : Nat → Ca Value) (SR : Nat → Ca Int) (oc ol or_ : Nat → Nat → Prop) : Prop where
  c : ∀ i, i < n → CacheAt U (oc i) w (cs i) (SC i)
  l : ∀ i, i < n → Li.CacheAt U (ol i) w (ls i) (SL i)
  r : ∀ i, i < n → RefAt U (or_ i) w (rs i) (SR i)
  d1 : ∀ i j k, i < n → j < n → oc i k → oc j k → i = j
  d2 : ∀ i j k, i < n → j < n → ol i k → ol j k → i = j
  d3 : ∀ i j k, i < n → j < n → or_ i k → or_ j k → i = j
  d4 : ∀ i j k, i < n → j < n → oc i k → ¬ ol j k
  lo : ∀ i k, i < n → oc i k ∨ ol i k ∨ or_ i k → B ≤ k
/-- Some such, whatever blocks are their own. -/
def Wos (B U n : Nat) (w : World) (cs ls rs : Nat → Nat) (SC SL : Nat → Ca Value) (SR : Nat → Ca Int) : Prop := ∃ oc ol or_, Wo B U n w cs ls rs SC SL SR oc ol or_
theorem ref_not_c {U : Nat} {own own' : Nat → Prop} {w : World} {b c : Nat} {s : Ca Int} {s' : Ca Value} (hr : RefAt U own w b s) (hc : CacheAt U own' w c s') {k : Nat} (h : own k) : ¬ own' k := fun h' => by
  obtain ⟨cur, t, hcur, ht⟩ := hr.typ h
  rcases hc.typ h' hcur with e | e <;> rcases ht with ht | ht <;> rw [ht] at e <;> exact absurd e (by decide)
theorem ref_not_l {U : Nat} {own own' : Nat → Prop} {w : World} {b c : Nat} {s : Ca Int} {s' : Ca Value} (hr : RefAt U own w b s) (hc : Li.CacheAt U own' w c s') {k : Nat} (h : own k) : ¬ own' k := fun h' => by
  obtain ⟨cur, t, hcur, ht⟩ := hr.typ h
  rcases hc.typ h' hcur with e | e <;> rcases ht with ht | ht <;> rw [ht] at e <;> exact absurd e (by decide)
section
variable {B U n : Nat} {w w' : World} {cs ls rs : Nat → Nat} {SC SL : Nat → Ca Value} {SR : Nat → Ca Int} {i : Nat}
theorem Wo.next_c {oc ol or_ : Nat → Nat → Prop} {s' : Ca Value} (h : Wo B U n w cs ls rs SC SL SR oc ol or_) (hi : i < n) (hB : B ≤ w.heap.size) (hx : Next U (oc i) w (cs i) s' w') : Hid (Wos B (U + 1) n w' cs ls rs (at_ SC i s') SL SR ∧ Moves B w w') := by
  have hst := Next.still (h.c i hi) hx
  obtain ⟨o', k1, k2, k3⟩ := hx
  refine ⟨⟨at_ oc i o', ol, or_, ⟨fun j hj => ?_, fun j hj => ((h.l j hj).beside k3 (fun k hk ho => h.d4 i j k hi hj ho hk)).mono (Nat.le_succ _), fun j hj => ((h.r j hj).beside k3 (fun k hk ho => ref_not_c (h.r j hj) (h.c i hi) hk ho)).mono (Nat.le_succ _), fun a b k ha hb h1 h2 => ?_, h.d2, h.d3, fun a b k ha hb h1 h2 => ?_, fun a k ha hk => ?_⟩⟩, Stay.of hst k3.size, Kept.below (Below.refl _ _) k3 hB (fun k hk => h.lo i k hi (.inl hk))⟩
  · by_cases e : j = i
    · subst e
      rw [at_same, at_same]
      exact k1
    · rw [at_other e, at_other e]
      exact ((h.c j hj).beside k3 (fun k hk ho => e (h.d1 j i k hj hi hk ho))).mono (Nat.le_succ _)
  · by_cases ea : a = i <;> by_cases eb : b = i
    · rw [ea, eb]
    · rw [ea, at_same] at h1
      rw [at_other eb] at h2
      rcases k2 k h1 with h1 | h1
      · exact ea.trans (h.d1 i b k hi hb h1 h2)
      · have := (h.c b hb).lt h2; omega
    · rw [eb, at_same] at h2
      rw [at_other ea] at h1
      rcases k2 k h2 with h2 | h2
      · exact (h.d1 a i k ha hi h1 h2).trans eb.symm
      · have := (h.c a ha).lt h1; omega
    · rw [at_other ea] at h1
      rw [at_other eb] at h2
      exact h.d1 a b k ha hb h1 h2
  · by_cases ea : a = i
    · rw [ea, at_same] at h1
      rcases k2 k h1 with h1 | h1
      · exact h.d4 i b k hi hb h1 h2
      · have := (h.l b hb).lt h2; omega
    · rw [at_other ea] at h1
      exact h.d4 a b k ha hb h1 h2
  · rcases hk with hk | hk | hk
    · by_cases ea : a = i
      · rw [ea, at_same] at hk
        rcases k2 k hk with hk | hk
        · exact h.lo i k hi (.inl hk)
        · omega
      · rw [at_other ea] at hk
        exact h.lo a k ha (.inl hk)
    · exact h.lo a k ha (.inr (.inl hk))
    · exact h.lo a k ha (.inr (.inr hk))
theorem Wo.next_l {oc ol or_ : Nat → Nat → Prop} {s' : Ca Value} (h : Wo B U n w cs ls rs SC SL SR oc ol or_) (hi : i < n) (hB : B ≤ w.heap.size) (hx : Li.Next U (ol i) w (ls i) s' w') : Hid (Wos B (U + 1) n w' cs ls rs SC (at_ SL i s') SR ∧ Moves B w w') := by
  have hst := Li.Next.still (h.l i hi) hx
  obtain ⟨o', k1, k2, k3⟩ := hx
  refine ⟨⟨oc, at_ ol i o', or_, ⟨fun j hj => ((h.c j hj).beside k3 (fun k hk ho => h.d4 j i k hj hi hk ho)).mono (Nat.le_succ _), fun j hj => ?_, fun j hj => ((h.r j hj).beside k3 (fun k hk ho => ref_not_l (h.r j hj) (h.l i hi) hk ho)).mono (Nat.le_succ _), h.d1, fun a b k ha hb h1 h2 => ?_, h.d3, fun a b k ha hb h1 h2 => ?_, fun a k ha hk => ?_⟩⟩, Stay.of hst k3.size, Kept.below (Below.refl _ _) k3 hB (fun k hk => h.lo i k hi (.inr (.inl hk)))⟩
  · by_cases e : j = i
    · subst e
      rw [at_same, at_same]
      exact k1
    · rw [at_other e, at_other e]
      exact ((h.l j hj).beside k3 (fun k hk ho => e (h.d2 j i k hj hi hk ho))).mono (Nat.le_succ _)
  · by_cases ea : a = i <;> by_cases eb : b = i
    · rw [ea, eb]
    · rw [ea, at_same] at h1
      rw [at_other eb] at h2
      rcases k2 k h1 with h1 | h1
      · exact ea.trans (h.d2 i b k hi hb h1 h2)
      · have := (h.l b hb).lt h2; omega
    · rw [eb, at_same] at h2
      rw [at_other ea] at h1
      rcases k2 k h2 with h2 | h2
      · exact (h.d2 a i k ha hi h1 h2).trans eb.symm
      · have := (h.l a ha).lt h1; omega
    · rw [at_other ea] at h1
      rw [at_other eb] at h2
      exact h.d2 a b k ha hb h1 h2
  · by_cases eb : b = i
    · rw [eb, at_same] at h2
      rcases k2 k h2 with h2 | h2
      · exact h.d4 a i k ha hi h1 h2
      · have := (h.c a ha).lt h1; omega
    · rw [at_other eb] at h2
      exact h.d4 a b k ha hb h1 h2
  · rcases hk with hk | hk | hk
    · exact h.lo a k ha (.inl hk)
    · by_cases ea : a = i
      · rw [ea, at_same] at hk
        rcases k2 k hk with hk | hk
        · exact h.lo i k hi (.inr (.inl hk))
        · omega
      · rw [at_other ea] at hk
        exact h.lo a k ha (.inr (.inl hk))
    · exact h.lo a k ha (.inr (.inr hk))
theorem Wo.next_r {oc ol or_ : Nat → Nat → Prop} {s' : Ca Int} (h : Wo B U n w cs ls rs SC SL SR oc ol or_) (hi : i < n) (hB : B ≤ w.heap.size) (hx : RNext U (or_ i) w (rs i) s' w') : Hid (Wos B (U + 1) n w' cs ls rs SC SL (at_ SR i s') ∧ Moves B w w') := by
  have hst := RNext.stay (h.r i hi) hx
  obtain ⟨o', k1, k2, k3⟩ := hx
  refine ⟨⟨oc, ol, at_ or_ i o', ⟨fun j hj => ((h.c j hj).beside k3 (fun k hk ho => ref_not_c (h.r i hi) (h.c j hj) ho hk)).mono (Nat.le_succ _), fun j hj => ((h.l j hj).beside k3 (fun k hk ho => ref_not_l (h.r i hi) (h.l j hj) ho hk)).mono (Nat.le_succ _), fun j hj => ?_, h.d1, h.d2, fun a b k ha hb h1 h2 => ?_, h.d4, fun a k ha hk => ?_⟩⟩, hst, Kept.below (Below.refl _ _) k3 hB (fun k hk => h.lo i k hi (.inr (.inr hk)))⟩
  · by_cases e : j = i
    · subst e
      rw [at_same, at_same]
      exact k1
    · rw [at_other e, at_other e]
      exact ((h.r j hj).beside k3 (fun k hk ho => e (h.d3 j i k hj hi hk ho))).mono (Nat.le_succ _)
  · by_cases ea : a = i <;> by_cases eb : b = i
    · rw [ea, eb]
    · rw [ea, at_same] at h1
      rw [at_other eb] at h2
      rcases k2 k h1 with h1 | h1
      · exact ea.trans (h.d3 i b k hi hb h1 h2)
      · have := (h.r b hb).lt h2; omega
    · rw [eb, at_same] at h2
      rw [at_other ea] at h1
      rcases k2 k h2 with h2 | h2
      · exact (h.d3 a i k ha hi h1 h2).trans eb.symm
      · have := (h.r a ha).lt h1; omega
    · rw [at_other ea] at h1
      rw [at_other eb] at h2
      exact h.d3 a b k ha hb h1 h2
  · rcases hk with hk | hk | hk
    · exact h.lo a k ha (.inl hk)
    · exact h.lo a k ha (.inr (.inl hk))
    · by_cases ea : a = i
      · rw [ea, at_same] at hk
        rcases k2 k hk with hk | hk
        · exact h.lo i k hi (.inr (.inr hk))
        · omega
      · rw [at_other ea] at hk
        exact h.lo a k ha (.inr (.inr hk))
/-- While other memory turns. -/
theorem Wos.far {S : Nat → Prop} (h : Wos B U n w cs ls rs SC SL SR) (hk : Kept S w w') (hS : ∀ k, S k → k < w.heap.size → ∃ cur t z, w.heap[k]? = some (.cells cur t z) ∧ t ≠ 71 ∧ t ≠ 68 ∧ t ≠ 83 ∧ t ≠ 86 ∧ t ≠ 64 ∧ t ≠ 89) : Wos B U n w' cs ls rs SC SL SR := by
  obtain ⟨oc, ol, or_, h⟩ := h
  refine ⟨oc, ol, or_, ⟨fun i hi => (h.c i hi).beside hk fun k hk hs => ?_, fun i hi => (h.l i hi).beside hk fun k hk hs => ?_, fun i hi => (h.r i hi).beside hk fun k hk hs => ?_, h.d1, h.d2, h.d3, h.d4, h.lo⟩⟩
  · obtain ⟨cur, t, z, hc, t1, t2, t3, t4, t5, t6⟩ := hS k hs ((h.c i hi).lt hk)
    rcases (h.c i hi).typ hk hc with e | e
    · exact t1 e
    · exact t2 e
  · obtain ⟨cur, t, z, hc, t1, t2, t3, t4, t5, t6⟩ := hS k hs ((h.l i hi).lt hk)
    rcases (h.l i hi).typ hk hc with e | e
    · exact t3 e
    · exact t4 e
  · obtain ⟨cur, t, z, hc, t1, t2, t3, t4, t5, t6⟩ := hS k hs ((h.r i hi).lt hk)
    obtain ⟨cur', t', hc', ht⟩ := (h.r i hi).typ hk
    rw [hc'] at hc
    simp at hc
    rcases ht with ht | ht
    · exact t5 (hc.2.1.symm.trans ht)
    · exact t6 (hc.2.1.symm.trans ht)
theorem Wos.mono {U' : Nat} (h : Wos B U n w cs ls rs SC SL SR) (hU : U ≤ U') : Wos B U' n w cs ls rs SC SL SR := by
  obtain ⟨oc, ol, or_, h⟩ := h
  exact ⟨oc, ol, or_, ⟨fun i hi => (h.c i hi).mono hU, fun i hi => (h.l i hi).mono hU, fun i hi => (h.r i hi).mono hU, h.d1, h.d2, h.d3, h.d4, h.lo⟩⟩
theorem Wos.below (h : Wos B U n w cs ls rs SC SL SR) (hb : Below w.heap.size w w') : Wos B U n w' cs ls rs SC SL SR := h.far (S := fun _ => False) (Kept.of_below hb) (fun _ h => h.elim)
end
/-- The document's cache in the words of the program's, for numbers. -/
def iv (s : Ca Int) : Ca Value := ⟨s.places, s.hits, s.misses, s.L.map fun t => ⟨t.n, .int .i64 t.x, t.pins⟩⟩
/-- A list's thing: a row of one number, at a block of its own. -/
def lk (w : World) (t : Th Value) (u : Th Int) : Prop := t.n = u.n ∧ t.pins = u.pins ∧ ∃ g, t.x = .slice (some ⟨g, 0, none⟩) 1 1 ∧ w.heap[g]? = some (.cells #[.int .i64 u.x] 3 (0, 0))
end Go.Proofs.Yteajgodpdfcioaa
