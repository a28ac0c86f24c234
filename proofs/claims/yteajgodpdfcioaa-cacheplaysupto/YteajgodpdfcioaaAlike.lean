/- Two caches whose things are alike answer alike: plain lists. -/
import Derived.Test.YteajgodpdfcioaaHeldP
namespace Go.Proofs.Yteajgodpdfcioaa
variable {X Y : Type}

/-- Element by element. -/
inductive All2 (R : X → Y → Prop) : List X → List Y → Prop
  | nil : All2 R [] []
  | cons {x : X} {y : Y} {l : List X} {m : List Y} : R x y → All2 R l m → All2 R (x :: l) (y :: m)
theorem All2.length {R : X → Y → Prop} {l : List X} {m : List Y} (h : All2 R l m) : l.length = m.length := by
  induction h with
  | nil => rfl
  | cons _ _ ih => simp [ih]
theorem All2.append {R : X → Y → Prop} {l l' : List X} {m m' : List Y} (h : All2 R l m) (k : All2 R l' m') : All2 R (l ++ l') (m ++ m') := by
  induction h with
  | nil => exact k
  | cons h _ ih => exact .cons h ih
theorem All2.one {R : X → Y → Prop} {x : X} {y : Y} (h : R x y) : All2 R [x] [y] := .cons h .nil
theorem All2.mono {R S : X → Y → Prop} {l : List X} {m : List Y} (h : All2 R l m) (hs : ∀ x y, x ∈ l → y ∈ m → R x y → S x y) : All2 S l m := by
  induction h with
  | nil => exact .nil
  | cons h _ ih => exact .cons (hs _ _ (by simp) (by simp) h) (ih fun x y hx hy => hs x y (by simp [hx]) (by simp [hy]))
theorem All2.filter {R : X → Y → Prop} {l : List X} {m : List Y} {p : X → Bool} {q : Y → Bool} (h : All2 R l m) (hp : ∀ x y, R x y → p x = q y) : All2 R (l.filter p) (m.filter q) := by
  induction h with
  | nil => exact .nil
  | @cons x y l m h _ ih =>
    rw [List.filter_cons, List.filter_cons, hp x y h]
    split
    · exact .cons h ih
    · exact ih
theorem All2.find {R : X → Y → Prop} {l : List X} {m : List Y} {p : X → Bool} {q : Y → Bool} (h : All2 R l m) (hp : ∀ x y, R x y → p x = q y) : (l.find? p = none ∧ m.find? q = none) ∨ ∃ x y, l.find? p = some x ∧ m.find? q = some y ∧ R x y := by
  induction h with
  | nil => exact .inl ⟨rfl, rfl⟩
  | @cons x y l m h _ ih =>
    rw [List.find?_cons, List.find?_cons, hp x y h]
    cases hq : q y
    · simpa using ih
    · exact .inr ⟨x, y, by simp, by simp, h⟩
theorem All2.map {R : X → Y → Prop} {l : List X} {m : List Y} {f : X → X} {g : Y → Y} (h : All2 R l m) (hf : ∀ x y, R x y → R (f x) (g y)) : All2 R (l.map f) (m.map g) := by
  induction h with
  | nil => exact .nil
  | cons h _ ih => exact .cons (hf _ _ h) ih
/-- A likeness of things: numbers and pins are the same. -/
structure Fair (R : Th X → Th Y → Prop) : Prop where
  n : ∀ t u, R t u → t.n = u.n
  pins : ∀ t u, R t u → t.pins = u.pins
  turn : ∀ t u k, R t u → R { t with pins := k } { u with pins := k }
structure Alike (R : Th X → Th Y → Prop) (s : Ca X) (s' : Ca Y) : Prop where
  places : s.places = s'.places
  hits : s.hits = s'.hits
  misses : s.misses = s'.misses
  L : All2 R s.L s'.L
variable {R : Th X → Th Y → Prop} {s : Ca X} {s' : Ca Y}
theorem Alike.find (h : Alike R s s') (f : Fair R) (n : Int) : (findT n s.L = none ∧ findT n s'.L = none) ∨ ∃ t u, findT n s.L = some t ∧ findT n s'.L = some u ∧ R t u :=
  h.L.find fun t u r => by rw [f.n t u r]
theorem Alike.out (h : Alike R s s') (f : Fair R) (n : Int) : All2 R (outT n s.L) (outT n s'.L) := h.L.filter fun t u r => by rw [f.n t u r]
theorem Alike.loose (h : Alike R s s') (f : Fair R) : (looseT s.L = none ∧ looseT s'.L = none) ∨ ∃ t u, looseT s.L = some t ∧ looseT s'.L = some u ∧ R t u :=
  h.L.find fun t u r => by rw [f.pins t u r]
theorem Alike.has (h : Alike R s s') (f : Fair R) (n : Int) : s.has n = s'.has n := by
  unfold Ca.has
  rcases h.find f n with ⟨h1, h2⟩ | ⟨t, u, h1, h2, _⟩ <;> rw [h1, h2] <;> rfl
theorem Alike.canUnpin (h : Alike R s s') (f : Fair R) (n : Int) : s.canUnpin n = s'.canUnpin n := by
  unfold Ca.canUnpin
  rcases h.find f n with ⟨h1, h2⟩ | ⟨t, u, h1, h2, r⟩
  · rw [h1, h2]
  · rw [h1, h2]
    simp [f.pins t u r]
theorem Alike.get (h : Alike R s s') (f : Fair R) (n : Int) : Alike R (s.get n) (s'.get n) := by
  unfold Ca.get
  rcases h.find f n with ⟨h1, h2⟩ | ⟨t, u, h1, h2, r⟩
  · rw [h1, h2]
    exact ⟨h.places, h.hits, by simp [h.misses], h.L⟩
  · rw [h1, h2]
    exact ⟨h.places, by simp [h.hits], h.misses, (h.out f n).append (.one r)⟩
theorem Alike.went (h : Alike R s s') (f : Fair R) (n : Int) : s.went n = s'.went n := by
  unfold Ca.went
  rcases h.find f n with ⟨h1, h2⟩ | ⟨t, u, h1, h2, r⟩
  · rw [h1, h2]
    simp only [h.L.length, h.places]
    split
    · rfl
    · rcases h.loose f with ⟨h3, h4⟩ | ⟨t, u, h3, h4, r⟩
      · rw [h3, h4]
      · rw [h3, h4]
        simp [f.n t u r]
  · rw [h1, h2]
theorem Alike.put (h : Alike R s s') (f : Fair R) (n : Int) {x : X} {y : Y} (hn : ∀ k, R ⟨n, x, k⟩ ⟨n, y, k⟩) : Alike R (s.put n x) (s'.put n y) := by
  have hfind := h.find f n
  have hloose := h.loose f
  have hout := fun m => h.out f m
  have hlen := h.L.length
  obtain ⟨P, Hh, M, L⟩ := s
  obtain ⟨P', Hh', M', L'⟩ := s'
  obtain ⟨e1, e2, e3, hL⟩ := h
  simp at e1 e2 e3
  subst e1 e2 e3
  simp only at hfind hloose hout hlen hL
  unfold Ca.put
  rcases hfind with ⟨h1, h2⟩ | ⟨t, u, h1, h2, r⟩
  · simp only [h1, h2, hlen]
    by_cases hr : L'.length < P
    · simp only [hr, if_true]
      exact ⟨rfl, rfl, rfl, hL.append (.one (hn 0))⟩
    · simp only [hr, if_false]
      rcases hloose with ⟨h3, h4⟩ | ⟨t, u, h3, h4, r⟩
      · simp only [h3, h4]
        exact ⟨rfl, rfl, rfl, hL⟩
      · simp only [h3, h4, f.n t u r]
        exact ⟨rfl, rfl, rfl, (hout u.n).append (.one (hn 0))⟩
  · simp only [h1, h2]
    refine ⟨rfl, rfl, rfl, (hout n).append (.one ?_)⟩
    have e1 : t.n = n := (find_some h1).2
    have e2 : u.n = n := (find_some h2).2
    have e3 := f.pins t u r
    have := hn t.pins
    obtain ⟨tn, tx, tp⟩ := t
    obtain ⟨un, ux, up⟩ := u
    simp at e1 e2 e3
    subst e1 e2 e3
    exact this
theorem Alike.drop (h : Alike R s s') (f : Fair R) (n : Int) : Alike R (s.drop n) (s'.drop n) := ⟨h.places, h.hits, h.misses, h.out f n⟩
theorem Alike.pin (h : Alike R s s') (f : Fair R) (n : Int) : Alike R (s.pin n) (s'.pin n) := by
  refine ⟨h.places, h.hits, h.misses, h.L.map fun t u r => ?_⟩
  have e1 := f.n t u r
  have e2 := f.pins t u r
  by_cases e : u.n = n
  · rw [if_pos (e1.trans e), if_pos e, show u.pins + 1 = t.pins + 1 by rw [e2]]
    exact f.turn t u _ r
  · rw [if_neg (fun x => e (e1.symm.trans x)), if_neg e]
    exact r
theorem Alike.unpin (h : Alike R s s') (f : Fair R) (n : Int) : Alike R (s.unpin n) (s'.unpin n) := by
  refine ⟨h.places, h.hits, h.misses, h.L.map fun t u r => ?_⟩
  have e1 := f.n t u r
  have e2 := f.pins t u r
  by_cases e : u.n = n
  · rw [if_pos (e1.trans e), if_pos e, show u.pins - 1 = t.pins - 1 by rw [e2]]
    exact f.turn t u _ r
  · rw [if_neg (fun x => e (e1.symm.trans x)), if_neg e]
    exact r
theorem Alike.nums (h : Alike R s s') (f : Fair R) : s.nums = s'.nums := by
  unfold Ca.nums
  have := h.L
  generalize s.L = l at *
  generalize s'.L = m at *
  induction this with
  | nil => rfl
  | cons r _ ih => simp [f.n _ _ r, ih]
end Go.Proofs.Yteajgodpdfcioaa
