/- Plain mathematics: neighbours that hang together in a ring; what a cache is, as a list of things. -/
import Derived.WalkKit
namespace Go.Proofs.Yteajgodpdfcioaa

/-- Neighbours hang together. -/
def Link (nx pv : Nat → Nat) : List Nat → Prop
  | [] => True
  | [_] => True
  | x :: y :: r => nx x = y ∧ pv y = x ∧ Link nx pv (y :: r)

def upd (f : Nat → Nat) (a v : Nat) : Nat → Nat := fun k => if k = a then v else f k
theorem upd_same (f : Nat → Nat) (a v : Nat) : upd f a v a = v := by simp [upd]
theorem upd_other {f : Nat → Nat} {a v k : Nat} (h : k ≠ a) : upd f a v k = f k := by simp [upd, h]

theorem Link.split {nx pv : Nat → Nat} : ∀ (A : List Nat) (x : Nat) (B : List Nat), Link nx pv (A ++ x :: B) ↔ Link nx pv (A ++ [x]) ∧ Link nx pv (x :: B)
  | [], x, B => by simp [Link]
  | [a], x, B => by simp [Link, and_assoc]
  | a :: b :: A, x, B => by
    have ih := Link.split (nx := nx) (pv := pv) (b :: A) x B
    simp only [List.cons_append, Link] at ih ⊢
    rw [ih]
    simp [and_assoc]
theorem Link.same {nx pv nx' pv' : Nat → Nat} : ∀ {l : List Nat}, Link nx pv l → (∀ x ∈ l.dropLast, nx' x = nx x) → (∀ x ∈ l.tail, pv' x = pv x) → Link nx' pv' l
  | [], _, _, _ => trivial
  | [_], _, _, _ => trivial
  | x :: y :: r, h, hn, hp => by
    obtain ⟨h1, h2, h3⟩ := h
    refine ⟨?_, ?_, Link.same h3 (fun z hz => hn z ?_) (fun z hz => hp z ?_)⟩
    · rw [hn x (by simp), h1]
    · rw [hp y (by simp), h2]
    · simp only [List.dropLast_cons_cons]; exact List.mem_cons_of_mem _ hz
    · simp only [List.tail_cons]; exact List.mem_of_mem_tail hz
theorem Link.next {nx pv : Nat → Nat} {A B : List Nat} {x y : Nat} (h : Link nx pv (A ++ x :: y :: B)) : nx x = y ∧ pv y = x := by
  have := ((Link.split A x (y :: B)).1 h).2
  exact ⟨this.1, this.2.1⟩
theorem Link.out {nx pv : Nat → Nat} {P Q : List Nat} {a b c : Nat} (h : Link nx pv (P ++ a :: b :: c :: Q)) (h1 : a ∉ P) (h2 : a ∉ (c :: Q).dropLast) (h3 : c ∉ Q) (h4 : c ∉ (P ++ [a]).tail) :
    Link (upd nx a c) (upd pv c a) (P ++ a :: c :: Q) := by
  obtain ⟨l1, l2⟩ := (Link.split P a (b :: c :: Q)).1 h
  obtain ⟨_, _, l3⟩ := l2
  obtain ⟨_, _, l4⟩ := l3
  refine (Link.split P a (c :: Q)).2 ⟨l1.same (fun x hx => ?_) (fun x hx => ?_), upd_same _ _ _, upd_same _ _ _, l4.same (fun x hx => ?_) (fun x hx => ?_)⟩
  · rw [List.dropLast_concat] at hx
    exact upd_other (fun e => h1 (e ▸ hx))
  · exact upd_other (fun e => h4 (e ▸ hx))
  · exact upd_other (fun e => h2 (e ▸ hx))
  · exact upd_other (fun e => h3 (e ▸ hx))
/-- One block more, at the end. -/
theorem Link.more {nx pv : Nat → Nat} {P : List Nat} {a b e : Nat} (h : Link nx pv (P ++ [a, e])) (h1 : a ∉ P) (h2 : b ∉ P) (h3 : e ∉ (P ++ [a]).tail) (h4 : b ∉ (P ++ [a]).tail) (hab : b ≠ a) (hbe : b ≠ e) :
    Link (upd (upd nx b e) a b) (upd (upd pv b a) e b) (P ++ [a, b, e]) := by
  obtain ⟨l1, _⟩ := (Link.split P a [e]).1 h
  refine (Link.split P a [b, e]).2 ⟨l1.same (fun x hx => ?_) (fun x hx => ?_), upd_same _ _ _, ?_, ?_, upd_same _ _ _, trivial⟩
  · rw [List.dropLast_concat] at hx
    rw [upd_other (by rintro rfl; exact h1 hx), upd_other (by rintro rfl; exact h2 hx)]
  · rw [upd_other (by rintro rfl; exact h3 hx), upd_other (by rintro rfl; exact h4 hx)]
  · rw [upd_other hbe, upd_same]
  · rw [upd_other hab, upd_same]

/-- The first of a list, or the end; the last. -/
def fstB (e : Nat) : List Nat → Nat
  | [] => e
  | x :: _ => x
def lstB (e : Nat) (l : List Nat) : Nat := (e :: l).getLast (by simp)
theorem fstB_app (e : Nat) (l : List Nat) : ∃ Q, l ++ [e] = fstB e l :: Q := by
  cases l with
  | nil => exact ⟨[], rfl⟩
  | cons x r => exact ⟨r ++ [e], rfl⟩
theorem lstB_app (e : Nat) (l : List Nat) : ∃ P, e :: l = P ++ [lstB e l] := ⟨(e :: l).dropLast, (List.dropLast_concat_getLast (by simp)).symm⟩
theorem lstB_mem (e : Nat) (l : List Nat) : lstB e l ∈ e :: l := List.getLast_mem _
theorem fstB_mem (e : Nat) (l : List Nat) : fstB e l ∈ e :: l := by
  cases l <;> simp [fstB]
/-- A ring. -/
structure Ring (nx pv : Nat → Nat) (e : Nat) (l : List Nat) : Prop where
  link : Link nx pv (e :: (l ++ [e]))
  nodup : (e :: l).Nodup
theorem Ring.at {nx pv : Nat → Nat} {e b : Nat} {A B : List Nat} (h : Ring nx pv e (A ++ b :: B)) : nx b = fstB e B ∧ pv b = lstB e A := by
  obtain ⟨Q, hQ⟩ := fstB_app e B
  obtain ⟨P, hP⟩ := lstB_app e A
  have hl := h.link
  have e1 : e :: (A ++ b :: B ++ [e]) = (e :: A) ++ b :: (B ++ [e]) := by simp
  rw [e1, hQ] at hl
  refine ⟨(Link.next hl).1, ?_⟩
  rw [hP] at hl
  have e2 : P ++ [lstB e A] ++ b :: fstB e B :: Q = P ++ lstB e A :: b :: fstB e B :: Q := by simp
  rw [e2] at hl
  exact (Link.next hl).2
theorem Ring.ends {nx pv : Nat → Nat} {e : Nat} {l : List Nat} (h : Ring nx pv e l) : nx e = fstB e l ∧ pv e = lstB e l := by
  obtain ⟨Q, hQ⟩ := fstB_app e l
  obtain ⟨P, hP⟩ := lstB_app e l
  have hl := h.link
  refine ⟨?_, ?_⟩
  · rw [hQ] at hl
    exact (Link.next (A := []) hl).1
  · have e2 : e :: (l ++ [e]) = P ++ lstB e l :: e :: [] := by rw [← List.cons_append, hP]; simp
    rw [e2] at hl
    exact (Link.next hl).2
theorem Ring.out {nx pv : Nat → Nat} {e b : Nat} {A B : List Nat} (h : Ring nx pv e (A ++ b :: B)) : Ring (upd nx (lstB e A) (fstB e B)) (upd pv (fstB e B) (lstB e A)) e (A ++ B) := by
  have hn := h.nodup
  have hn2 : (e :: (A ++ B)).Nodup := by
    refine hn.sublist (List.Sublist.cons_cons _ (List.Sublist.append_left (List.sublist_cons_self _ _) _))
  refine ⟨?_, hn2⟩
  obtain ⟨Q, hQ⟩ := fstB_app e B
  obtain ⟨P, hP⟩ := lstB_app e A
  have hl := h.link
  have e1 : e :: (A ++ b :: B ++ [e]) = P ++ lstB e A :: b :: fstB e B :: Q := by
    have : e :: (A ++ b :: B ++ [e]) = (e :: A) ++ b :: (B ++ [e]) := by simp
    rw [this, hQ, hP]; simp
  have e3 : e :: (A ++ B ++ [e]) = P ++ lstB e A :: fstB e B :: Q := by
    have : e :: (A ++ B ++ [e]) = (e :: A) ++ (B ++ [e]) := by simp
    rw [this, hQ, hP]; simp
  rw [e1] at hl
  rw [e3]
  have hnd : (e :: A ++ B).Nodup := by simpa using hn2
  obtain ⟨d1, d2, d3⟩ := List.nodup_append.1 hnd
  have hlm := lstB_mem e A
  refine hl.out ?_ ?_ ?_ ?_
  · rw [hP] at d1
    have := (List.nodup_append.1 d1).2.2
    intro hm
    exact this _ hm _ (by simp) rfl
  · rw [← hQ, List.dropLast_concat]
    intro hm
    exact d3 _ hlm _ hm rfl
  · have : (B ++ [e]).Nodup := by
      refine List.nodup_append.2 ⟨d2, by simp, fun x hx y hy hxy => ?_⟩
      simp at hy
      exact d3 e (by simp) x hx (by rw [hxy, hy])
    rw [hQ] at this
    exact (List.nodup_cons.1 this).1
  · rw [← hP, List.tail_cons]
    intro hm
    have hf : fstB e B ∈ B ++ [e] := by rw [hQ]; simp
    rcases List.mem_append.1 hf with hf | hf
    · exact d3 _ (List.mem_cons_of_mem _ hm) _ hf rfl
    · simp at hf
      rw [hf] at hm
      exact (List.nodup_cons.1 d1).1 hm
theorem Ring.more {nx pv : Nat → Nat} {e b : Nat} {l : List Nat} (h : Ring nx pv e l) (hb : b ∉ e :: l) : Ring (upd (upd nx b e) (lstB e l) b) (upd (upd pv b (lstB e l)) e b) e (l ++ [b]) := by
  obtain ⟨P, hP⟩ := lstB_app e l
  have hn := h.nodup
  have hn2 : (e :: (l ++ [b])).Nodup := by
    have : ((e :: l) ++ [b]).Nodup := List.nodup_append.2 ⟨hn, by simp, fun x hx y hy hxy => by simp at hy; rw [hxy, hy] at hx; exact hb hx⟩
    simpa using this
  refine ⟨?_, hn2⟩
  have hl := h.link
  have e1 : e :: (l ++ [e]) = P ++ [lstB e l, e] := by rw [← List.cons_append, hP]; simp
  have e2 : e :: (l ++ [b] ++ [e]) = P ++ [lstB e l, b, e] := by
    have : e :: (l ++ [b] ++ [e]) = (e :: l) ++ [b, e] := by simp
    rw [this, hP]; simp
  rw [e1] at hl
  rw [e2]
  have hbP : b ∉ P ++ [lstB e l] := by rw [← hP]; exact hb
  have ht : (P ++ [lstB e l]).tail = l := by rw [← hP]; rfl
  refine hl.more ?_ (fun hm => hbP (List.mem_append_left _ hm)) ?_ ?_ (fun hm => hbP (by rw [hm]; simp)) (fun hm => hb (by rw [hm]; simp))
  · rw [hP] at hn
    exact fun hm => (List.nodup_append.1 hn).2.2 _ hm _ (by simp) rfl
  · rw [ht]; exact (List.nodup_cons.1 hn).1
  · rw [ht]; exact fun hm => hb (List.mem_cons_of_mem _ hm)
theorem Ring.new (e : Nat) : Ring (fun _ => e) (fun _ => e) e [] := ⟨⟨rfl, rfl, trivial⟩, by simp⟩

/-! ### a cache as a list of things -/

structure Th (X : Type) where
  n : Int
  x : X
  pins : Nat
structure Ca (X : Type) where
  places : Nat
  hits : Nat
  misses : Nat
  L : List (Th X)
variable {X : Type}
def findT (n : Int) (L : List (Th X)) : Option (Th X) := L.find? fun t => t.n == n
def outT (n : Int) (L : List (Th X)) : List (Th X) := L.filter fun t => t.n != n
def Ca.get (s : Ca X) (n : Int) : Ca X := match findT n s.L with
  | none => { s with misses := s.misses + 1 }
  | some t => { s with hits := s.hits + 1, L := outT n s.L ++ [t] }
def looseT (L : List (Th X)) : Option (Th X) := L.find? fun t => t.pins == 0
def Ca.put (s : Ca X) (n : Int) (x : X) : Ca X := match findT n s.L with
  | some t => { s with L := outT n s.L ++ [{ t with x := x }] }
  | none => if s.L.length < s.places then { s with L := s.L ++ [⟨n, x, 0⟩] } else match looseT s.L with
    | none => s
    | some t => { s with L := outT t.n s.L ++ [⟨n, x, 0⟩] }
/-- What Put answers. -/
def Ca.went (s : Ca X) (n : Int) : Int × Bool := match findT n s.L with
  | some _ => (0, false)
  | none => if s.L.length < s.places then (0, false) else match looseT s.L with
    | none => (n, true)
    | some t => (t.n, true)
def Ca.has (s : Ca X) (n : Int) : Bool := (findT n s.L).isSome
def Ca.drop (s : Ca X) (n : Int) : Ca X := { s with L := outT n s.L }
def Ca.pin (s : Ca X) (n : Int) : Ca X := { s with L := s.L.map fun t => if t.n = n then { t with pins := t.pins + 1 } else t }
def Ca.canUnpin (s : Ca X) (n : Int) : Bool := match findT n s.L with | none => false | some t => t.pins != 0
def Ca.unpin (s : Ca X) (n : Int) : Ca X := { s with L := s.L.map fun t => if t.n = n then { t with pins := t.pins - 1 } else t }
def Ca.nums (s : Ca X) : List Int := s.L.map Th.n
end Go.Proofs.Yteajgodpdfcioaa
