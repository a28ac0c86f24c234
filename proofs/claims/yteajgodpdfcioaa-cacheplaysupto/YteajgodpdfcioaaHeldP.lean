/- P12.2 and P12.1, P12.3 on lists. -/
import Derived.Test.YteajgodpdfcioaaRing
namespace Go.Proofs.Yteajgodpdfcioaa
variable {X : Type}

theorem uniq {L : List (Th X)} (h : (L.map Th.n).Nodup) {a b : Th X} (ha : a ∈ L) (hb : b ∈ L) (e : a.n = b.n) : a = b := by
  induction L with
  | nil => cases ha
  | cons x L ih =>
    rw [List.map_cons, List.nodup_cons] at h
    rcases List.mem_cons.1 ha with h1 | h1
    · rcases List.mem_cons.1 hb with h2 | h2
      · rw [h1, h2]
      · exact absurd (show x.n ∈ L.map Th.n by rw [← h1, e]; exact List.mem_map_of_mem h2) h.1
    · rcases List.mem_cons.1 hb with h2 | h2
      · exact absurd (show x.n ∈ L.map Th.n by rw [← h2, ← e]; exact List.mem_map_of_mem h1) h.1
      · exact ih h.2 h1 h2
theorem find_some {L : List (Th X)} {n : Int} {t : Th X} (h : findT n L = some t) : t ∈ L ∧ t.n = n := by
  unfold findT at h
  exact ⟨List.mem_of_find?_eq_some h, by simpa using List.find?_some h⟩
theorem find_mem {L : List (Th X)} (h : (L.map Th.n).Nodup) {t : Th X} (ht : t ∈ L) : findT t.n L = some t := by
  cases e : findT t.n L with
  | none =>
    unfold findT at e
    have := List.find?_eq_none.1 e t ht
    simp at this
  | some u =>
    obtain ⟨h1, h2⟩ := find_some e
    rw [uniq h h1 ht h2]
theorem find_none {L : List (Th X)} {n : Int} (h : findT n L = none) : ∀ t ∈ L, t.n ≠ n := fun t ht e => by
  unfold findT at h
  have := List.find?_eq_none.1 h t ht
  simp [e] at this
theorem mem_out {L : List (Th X)} {n : Int} {t : Th X} : t ∈ outT n L ↔ t ∈ L ∧ t.n ≠ n := by
  unfold outT
  simp
theorem loose_some {L : List (Th X)} {t : Th X} (h : looseT L = some t) : t ∈ L ∧ t.pins = 0 := by
  unfold looseT at h
  exact ⟨List.mem_of_find?_eq_some h, by simpa using List.find?_some h⟩

/-- All of H are there, held, with what they are. -/
def HeldBy (s : Ca X) (H : List (Int × X)) : Prop := ∀ p ∈ H, ∃ t ∈ s.L, t.n = p.1 ∧ t.x = p.2 ∧ 0 < t.pins
/-- What the law makes of H when n is put in. -/
def setH (n : Int) (x : X) (H : List (Int × X)) : List (Int × X) := H.map fun p => if p.1 = n then (p.1, x) else p
theorem HeldBy.put {s : Ca X} {H : List (Int × X)} (h : HeldBy s H) (hn : (s.L.map Th.n).Nodup) (n : Int) (x : X) : HeldBy (s.put n x) (setH n x H) := by
  intro p hp
  obtain ⟨q, hq, rfl⟩ := List.mem_map.1 hp
  obtain ⟨t, ht, e1, e2, e3⟩ := h q hq
  unfold Ca.put
  cases hf : findT n s.L with
  | some u =>
    obtain ⟨u1, u2⟩ := find_some hf
    by_cases e : q.1 = n
    · have : u = t := uniq hn u1 ht (by rw [u2, e1, e])
      subst this
      exact ⟨{ u with x := x }, by simp, by simp [e, e1], by simp [e], e3⟩
    · exact ⟨t, List.mem_append_left _ (mem_out.2 ⟨ht, by rw [e1]; exact e⟩), by simp [e, e1], by simp [e, e2], e3⟩
  | none =>
    have e : q.1 ≠ n := fun e => find_none hf t ht (e1.trans e)
    simp only [e, if_false]
    split
    · exact ⟨t, List.mem_append_left _ ht, e1, e2, e3⟩
    · cases hl : looseT s.L with
      | none => exact ⟨t, ht, e1, e2, e3⟩
      | some u =>
        obtain ⟨u1, u2⟩ := loose_some hl
        refine ⟨t, List.mem_append_left _ (mem_out.2 ⟨ht, fun e5 => ?_⟩), e1, e2, e3⟩
        have := uniq hn ht u1 e5
        subst this
        omega
theorem HeldBy.get {s : Ca X} {H : List (Int × X)} (h : HeldBy s H) (hn : (s.L.map Th.n).Nodup) (n : Int) : HeldBy (s.get n) H := by
  intro p hp
  obtain ⟨t, ht, e1, e2, e3⟩ := h p hp
  unfold Ca.get
  cases hf : findT n s.L with
  | some u =>
    obtain ⟨u1, u2⟩ := find_some hf
    by_cases e : t.n = n
    · have : u = t := uniq hn u1 ht (by rw [u2, e])
      subst this
      exact ⟨u, by simp, e1, e2, e3⟩
    · exact ⟨t, List.mem_append_left _ (mem_out.2 ⟨ht, e⟩), e1, e2, e3⟩
  | none => exact ⟨t, ht, e1, e2, e3⟩
theorem HeldBy.found {s : Ca X} {H : List (Int × X)} (h : HeldBy s H) (hn : (s.L.map Th.n).Nodup) {p : Int × X} (hp : p ∈ H) : ∃ t, findT p.1 s.L = some t ∧ t.x = p.2 := by
  obtain ⟨t, ht, e1, e2, e3⟩ := h p hp
  exact ⟨t, e1 ▸ find_mem hn ht, e2⟩
/-- The things of H, pinned once. -/
def pinned (H : List (Int × X)) : List (Th X) := H.map fun p => ⟨p.1, p.2, 1⟩
theorem pinned_next {s : Ca X} {H : List (Int × X)} {n : Int} {x : X} (hs : s.L = pinned H) (hr : H.length < s.places) (hn : ∀ p ∈ H, p.1 ≠ n) : ((s.put n x).pin n).L = pinned (H ++ [(n, x)]) ∧ (s.put n x).has n = true := by
  have hf : findT n s.L = none := by
    unfold findT
    refine List.find?_eq_none.2 (fun t ht => ?_)
    rw [hs] at ht
    obtain ⟨p, hp, rfl⟩ := List.mem_map.1 ht
    simpa using hn p hp
  have hl : s.L.length < s.places := by rw [hs]; simpa [pinned] using hr
  have e : s.put n x = { s with L := s.L ++ [⟨n, x, 0⟩] } := by
    unfold Ca.put
    rw [hf]
    simp [hl]
  rw [e]
  refine ⟨?_, ?_⟩
  · unfold Ca.pin
    simp only [hs]
    rw [List.map_append, pinned, pinned, List.map_append, List.map_map]
    congr 1
    · refine List.map_congr_left (fun p hp => ?_)
      simp [hn p hp]
    · simp
  · unfold Ca.has findT
    simp
theorem pinned_held {s : Ca X} {H : List (Int × X)} (hs : s.L = pinned H) : HeldBy s H := fun p hp => ⟨⟨p.1, p.2, 1⟩, by rw [hs]; exact List.mem_map.2 ⟨p, hp, rfl⟩, rfl, rfl, Nat.one_pos⟩

/-! ### the last ones -/
def Loose (s : Ca X) : Prop := ∀ t ∈ s.L, t.pins = 0
def moveN (n : Int) (l : List Int) : List Int := l.filter (fun m => m != n) ++ [n]
def putN (P : Nat) (n : Int) (l : List Int) : List Int := if n ∈ l then moveN n l else if l.length < P then l ++ [n] else l.tail ++ [n]
def getN (n : Int) (l : List Int) : List Int := if n ∈ l then moveN n l else l
theorem out_nums (n : Int) (L : List (Th X)) : (outT n L).map Th.n = (L.map Th.n).filter (fun m => m != n) := by
  unfold outT
  induction L with
  | nil => rfl
  | cons t L ih =>
    by_cases e : t.n = n
    · simp [e] at ih ⊢; exact ih
    · simp [e] at ih ⊢; exact ih
theorem found_iff {s : Ca X} {n : Int} : (findT n s.L).isSome = true ↔ n ∈ s.nums := by
  unfold Ca.nums
  constructor
  · intro h
    obtain ⟨t, ht⟩ := Option.isSome_iff_exists.1 h
    obtain ⟨h1, h2⟩ := find_some ht
    exact h2 ▸ List.mem_map_of_mem h1
  · intro h
    obtain ⟨t, ht, e⟩ := List.mem_map.1 h
    cases hf : findT n s.L with
    | some u => rfl
    | none => exact absurd e (find_none hf t ht)
theorem get_nums (s : Ca X) (n : Int) : (s.get n).nums = getN n s.nums := by
  unfold getN
  cases hf : findT n s.L with
  | some u =>
    have hm : n ∈ s.nums := found_iff.1 (by rw [hf]; rfl)
    rw [if_pos hm]
    unfold Ca.get
    rw [hf]
    simp [Ca.nums, moveN, out_nums, (find_some hf).2]
  | none =>
    have hm : n ∉ s.nums := fun h => by have := found_iff.2 h; rw [hf] at this; cases this
    rw [if_neg hm]
    unfold Ca.get
    rw [hf]
    rfl
theorem get_loose {s : Ca X} (h : Loose s) (n : Int) : Loose (s.get n) := by
  intro t ht
  unfold Ca.get at ht
  cases hf : findT n s.L with
  | some u =>
    rw [hf] at ht
    rcases List.mem_append.1 ht with ht | ht
    · exact h t (mem_out.1 ht).1
    · simp at ht
      subst ht
      exact h t (find_some hf).1
  | none =>
    rw [hf] at ht
    exact h t ht
theorem put_loose {s : Ca X} (h : Loose s) (n : Int) (x : X) : Loose (s.put n x) := by
  intro t ht
  unfold Ca.put at ht
  cases hf : findT n s.L with
  | some u =>
    rw [hf] at ht
    rcases List.mem_append.1 ht with ht | ht
    · exact h t (mem_out.1 ht).1
    · simp at ht
      subst ht
      exact h u (find_some hf).1
  | none =>
    rw [hf] at ht
    simp only at ht
    split at ht
    · rcases List.mem_append.1 ht with ht | ht
      · exact h t ht
      · simp at ht
        subst ht
        rfl
    · split at ht
      · exact h t ht
      · rcases List.mem_append.1 ht with ht | ht
        · exact h t (mem_out.1 ht).1
        · simp at ht
          subst ht
          rfl
theorem put_nums {s : Ca X} (h : Loose s) (hn : s.nums.Nodup) (hp : 1 ≤ s.places) (n : Int) (x : X) : (s.put n x).nums = putN s.places n s.nums := by
  unfold putN
  cases hf : findT n s.L with
  | some u =>
    have hm : n ∈ s.nums := found_iff.1 (by rw [hf]; rfl)
    rw [if_pos hm]
    unfold Ca.put
    rw [hf]
    simp [Ca.nums, moveN, out_nums, (find_some hf).2]
  | none =>
    have hm : n ∉ s.nums := fun h => by have := found_iff.2 h; rw [hf] at this; cases this
    rw [if_neg hm]
    unfold Ca.put
    rw [hf]
    have hl : s.nums.length = s.L.length := by simp [Ca.nums]
    rw [hl]
    by_cases hr : s.L.length < s.places
    · simp [hr, Ca.nums]
    · simp only [hr, if_false]
      cases hL : s.L with
      | nil => rw [hL] at hr; simp at hr; omega
      | cons t L =>
        have ht0 : t.pins = 0 := h t (by rw [hL]; simp)
        have hlo : looseT (t :: L) = some t := by simp [looseT, ht0]
        rw [hlo]
        have hnd : ((t :: L).map Th.n).Nodup := by rw [← hL]; exact hn
        rw [List.map_cons, List.nodup_cons] at hnd
        have hto : outT t.n (t :: L) = L := by
          unfold outT
          rw [List.filter_cons_of_neg (by simp)]
          exact List.filter_eq_self.2 (fun u hu => by simp; exact fun e => hnd.1 (e ▸ List.mem_map_of_mem hu))
        simp [Ca.nums, hL, hto]
theorem getN_places (s : Ca X) (n : Int) : (s.get n).places = s.places := by
  unfold Ca.get
  split <;> rfl
theorem putN_places (s : Ca X) (n : Int) (x : X) : (s.put n x).places = s.places := by
  unfold Ca.put
  split
  · rfl
  · split
    · rfl
    · split <;> rfl
/-- What the law reckons is what Put leaves. -/
theorem law_put {P : Nat} {n : Int} {l : List Int} (hn : l.Nodup) (hl : l.length ≤ P) (h1 : 1 ≤ P) : putN P n l = if P < (moveN n l).length then (moveN n l).drop ((moveN n l).length - P) else moveN n l := by
  unfold putN
  by_cases hm : n ∈ l
  · rw [if_pos hm]
    have : (moveN n l).length ≤ l.length := by
      unfold moveN
      rw [List.length_append]
      have h2 : (l.filter (fun m => m != n)).length < l.length := by
        rcases Nat.lt_or_ge (l.filter (fun m => m != n)).length l.length with h | h
        · exact h
        · have := (List.filter_sublist (p := fun m => m != n) (l := l)).eq_of_length_le h
          have h3 := List.filter_eq_self.1 this n hm
          simp at h3
      simp
      omega
    rw [if_neg (by omega)]
  · have hf : l.filter (fun m => m != n) = l := List.filter_eq_self.2 (fun m hx => by simp; exact fun e => hm (e ▸ hx))
    rw [if_neg hm]
    unfold moveN
    rw [hf]
    by_cases hr : l.length < P
    · rw [if_pos hr, if_neg (by simp; omega)]
    · rw [if_neg hr, if_pos (by simp; omega)]
      have e : (l ++ [n]).length - P = 1 := by simp; omega
      rw [e]
      cases l with
      | nil => simp at hr; omega
      | cons a l => simp
theorem law_get {P : Nat} {n : Int} {l : List Int} (hn : l.Nodup) (hl : l.length ≤ P) (h1 : 1 ≤ P) (hm : n ∈ l) : getN n l = if P < (moveN n l).length then (moveN n l).drop ((moveN n l).length - P) else moveN n l := by
  have := law_put (n := n) hn hl h1
  unfold putN at this
  rw [if_pos hm] at this
  unfold getN
  rw [if_pos hm]
  exact this
/-- The few are among the many, in their order; and where there is room, all. -/
structure Among (P Q : Nat) (a b : List Int) : Prop where
  le : P ≤ Q
  one : 1 ≤ P
  sub : a.Sublist b
  all : a.length < P → a = b
theorem move_sub {a b : List Int} (h : a.Sublist b) (n : Int) : (moveN n a).Sublist (moveN n b) := by
  unfold moveN
  exact (h.filter _).append (List.Sublist.refl _)
theorem tail_sub {a b : List Int} (h : a.Sublist b) : a.tail.Sublist b.tail := by
  cases a with
  | nil => exact List.nil_sublist _
  | cons x a =>
    cases b with
    | nil => cases h
    | cons y b =>
      simp only [List.tail_cons]
      cases h with
      | cons _ h => exact (List.sublist_cons_self x a).trans h
      | cons_cons _ h => exact h
theorem move_len {l : List Int} (hn : l.Nodup) {n : Int} (hm : n ∈ l) : (moveN n l).length = l.length := by
  obtain ⟨A, B, rfl⟩ := List.append_of_mem hm
  obtain ⟨_, d2, d3⟩ := List.nodup_append.1 hn
  unfold moveN
  rw [List.filter_append, List.filter_cons_of_neg (by simp), List.filter_eq_self.2 (fun m hx => by simp; exact fun e => d3 m hx n (by simp) e), List.filter_eq_self.2 (fun m hx => by simp; exact fun e => (List.nodup_cons.1 d2).1 (e ▸ hx))]
  simp
theorem Among.get {P Q : Nat} {a b : List Int} (h : Among P Q a b) (hn : a.Nodup) (n : Int) : Among P Q (getN n a) (getN n b) := by
  refine ⟨h.le, h.one, ?_, ?_⟩
  · unfold getN
    by_cases ha : n ∈ a
    · rw [if_pos ha, if_pos (h.sub.subset ha)]
      exact move_sub h.sub n
    · rw [if_neg ha]
      by_cases hb : n ∈ b
      · rw [if_pos hb]
        unfold moveN
        have hf : a.filter (fun m => m != n) = a := List.filter_eq_self.2 (fun m hx => by simp; exact fun e => ha (e ▸ hx))
        have h1 := h.sub.filter (fun m => m != n)
        rw [hf] at h1
        exact h1.trans (List.sublist_append_left _ _)
      · rw [if_neg hb]
        exact h.sub
  · intro hl
    have hl2 : a.length < P := by
      unfold getN at hl
      by_cases ha : n ∈ a
      · rw [if_pos ha, move_len hn ha] at hl
        exact hl
      · rw [if_neg ha] at hl
        exact hl
    rw [h.all hl2]
theorem Among.put {P Q : Nat} {a b : List Int} (h : Among P Q a b) (hn : a.Nodup) (hb : b.length ≤ Q) (ha' : a.length ≤ P) (n : Int) : Among P Q (putN P n a) (putN Q n b) := by
  have h1 := h.one
  have h2 := h.le
  by_cases hr : a.length < P
  · have e := h.all hr
    subst e
    have hrq : a.length < Q := by omega
    unfold putN
    by_cases ha : n ∈ a
    · rw [if_pos ha, if_pos ha]
      exact ⟨h.le, h.one, List.Sublist.refl _, fun _ => rfl⟩
    · rw [if_neg ha, if_neg ha, if_pos hr, if_pos hrq]
      exact ⟨h.le, h.one, List.Sublist.refl _, fun _ => rfl⟩
  · have hfull : ∀ l : List Int, ¬ l.length < P → l.length < P → l = putN Q n b := fun l h1 h2 => absurd h2 h1
    refine ⟨h.le, h.one, ?_, fun hl => hfull _ ?_ hl⟩
    · unfold putN
      by_cases ha : n ∈ a
      · rw [if_pos ha, if_pos (h.sub.subset ha)]
        exact move_sub h.sub n
      · rw [if_neg ha, if_neg hr]
        by_cases hb : n ∈ b
        · rw [if_pos hb]
          unfold moveN
          have hf : a.filter (fun m => m != n) = a := List.filter_eq_self.2 (fun m hx => by simp; exact fun e => ha (e ▸ hx))
          have h3 := h.sub.filter (fun m => m != n)
          rw [hf] at h3
          exact ((List.tail_sublist a).trans h3).append (List.Sublist.refl _)
        · rw [if_neg hb]
          split
          · exact ((List.tail_sublist a).trans h.sub).append (List.Sublist.refl _)
          · exact (tail_sub h.sub).append (List.Sublist.refl _)
    · unfold putN
      by_cases ha : n ∈ a
      · rw [if_pos ha, move_len hn ha]
        exact hr
      · rw [if_neg ha, if_neg hr]
        simp
        omega
end Go.Proofs.Yteajgodpdfcioaa
