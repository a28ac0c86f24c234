/- A space as a set: words of bits, the first block from a place on that is used or free, the runs, how many are used. -/
namespace Go.Proofs.YtlokplnapaghhaaDoor

abbrev Ws := Nat → BitVec 64
/-- Is that block used? -/
def bit (f : Ws) (k : Nat) : Bool := (f (k / 64)).getLsbD (k % 64)
def turnW (f : Ws) (k : Nat) : Ws := fun i => if i = k / 64 then f i ^^^ (1#64 <<< (k % 64)) else f i
theorem bit_turn (f : Ws) (k m : Nat) : bit (turnW f k) m = if m = k then !bit f k else bit f m := by
  unfold bit turnW
  by_cases h : m / 64 = k / 64
  · rw [if_pos h, BitVec.getLsbD_xor, BitVec.getLsbD_shiftLeft]
    by_cases e : m = k
    · subst e
      have : m % 64 < 64 := Nat.mod_lt _ (by decide)
      simp [this]
    · rw [if_neg e, h]
      have h2 : m % 64 ≠ k % 64 := by omega
      have h3 : m % 64 < 64 := Nat.mod_lt _ (by decide)
      by_cases hl : m % 64 < k % 64
      · simp [hl]
      · have : m % 64 - k % 64 ≠ 0 := by omega
        have e1 : (1#64).getLsbD (m % 64 - k % 64) = false := by
          rw [BitVec.getLsbD_one]; simp; omega
        simp [e1]
  · rw [if_neg h, if_neg (by rintro rfl; exact h rfl)]
def noneW : Ws := fun _ => 0#64
theorem bit_none (k : Nat) : bit noneW k = false := by simp [bit, noneW]

/-- A space: how many blocks, and its words. -/
structure Sp where
  n : Nat
  f : Ws
structure Sp.Ok (s : Sp) : Prop where
  low : 16 ≤ s.n
  high : s.n ≤ 65536
  zero : ∀ k, s.n ≤ k → bit s.f k = false
def Sp.has (s : Sp) (k : Nat) : Bool := bit s.f k
def Sp.turn (s : Sp) (k : Nat) : Sp := ⟨s.n, turnW s.f k⟩
theorem Sp.Ok.turn {s : Sp} (h : s.Ok) {k : Nat} (hk : k < s.n) : (s.turn k).Ok :=
  ⟨h.low, h.high, fun m hm => by
    have hm' : s.n ≤ m := hm
    simp only [Sp.turn, bit_turn]
    rw [if_neg (by omega)]
    exact h.zero m hm'⟩
theorem Sp.has_turn (s : Sp) (k m : Nat) : (s.turn k).has m = if m = k then !s.has k else s.has m := bit_turn _ _ _
def Sp.empty (n : Nat) : Sp := ⟨n, noneW⟩
theorem Sp.Ok.empty {n : Nat} (h : 16 ≤ n) (h' : n ≤ 65536) : (Sp.empty n).Ok := ⟨h, h', fun k _ => bit_none k⟩
theorem Sp.has_empty (n k : Nat) : (Sp.empty n).has k = false := bit_none k
/-- Some blocks turned, one behind the other. -/
def Sp.use (s : Sp) (a : Nat) : Nat → Sp
  | 0 => s
  | c + 1 => (s.use a c).turn (a + c)
theorem Sp.use_n (s : Sp) (a c : Nat) : (s.use a c).n = s.n := by
  induction c with
  | zero => rfl
  | succ c ih => exact ih
theorem Sp.Ok.use {s : Sp} (h : s.Ok) {a c : Nat} (hc : a + c ≤ s.n) : (s.use a c).Ok := by
  induction c with
  | zero => exact h
  | succ c ih => exact (ih (by omega)).turn (by rw [Sp.use_n]; omega)
theorem Sp.has_use (s : Sp) (a c m : Nat) : (s.use a c).has m = if a ≤ m ∧ m < a + c then !s.has m else s.has m := by
  induction c generalizing m with
  | zero => rw [if_neg (by omega)]; rfl
  | succ c ih =>
    rw [Sp.use, Sp.has_turn, ih, ih]
    by_cases e : m = a + c
    · subst e
      rw [if_pos rfl, if_neg (by omega), if_pos (by omega)]
    · rw [if_neg e]
      by_cases h : a ≤ m ∧ m < a + c
      · rw [if_pos h, if_pos (by omega)]
      · rw [if_neg h, if_neg (by omega)]

/-- The first block from m on that is as b says; n if there is none. -/
def nx (U : Nat → Bool) (b : Bool) (n : Nat) : Nat → Nat → Nat
  | 0, _ => n
  | fuel + 1, m => if m < n then (if U m = b then m else nx U b n fuel (m + 1)) else n
structure IsNx (U : Nat → Bool) (b : Bool) (n m k : Nat) : Prop where
  le : m ≤ k
  top : k ≤ n
  not : ∀ j, m ≤ j → j < k → U j = !b
  hit : k < n → U k = b
theorem IsNx.uniq {U : Nat → Bool} {b : Bool} {n m k k' : Nat} (h : IsNx U b n m k) (h' : IsNx U b n m k') : k = k' := by
  rcases Nat.lt_trichotomy k k' with hl | he | hg
  · have h1 := h'.not k h.le hl
    have h2 := h.hit (Nat.lt_of_lt_of_le hl h'.top)
    rw [h2] at h1
    cases b <;> cases h1
  · exact he
  · have h1 := h.not k' h'.le hg
    have h2 := h'.hit (Nat.lt_of_lt_of_le hg h.top)
    rw [h2] at h1
    cases b <;> cases h1
theorem nx_is (U : Nat → Bool) (b : Bool) (n : Nat) : ∀ (fuel m : Nat), m ≤ n → n ≤ m + fuel → IsNx U b n m (nx U b n fuel m)
  | 0, m, h1, h2 => by
    obtain rfl : m = n := by omega
    exact ⟨Nat.le_refl _, Nat.le_refl _, fun j h3 h4 => by simp only [nx] at h4; omega, fun h => by simp only [nx] at h; omega⟩
  | fuel + 1, m, h1, h2 => by
    unfold nx
    by_cases hm : m < n
    · rw [if_pos hm]
      by_cases hu : U m = b
      · rw [if_pos hu]
        exact ⟨Nat.le_refl _, h1, fun j h3 h4 => by omega, fun _ => hu⟩
      · rw [if_neg hu]
        have ih := nx_is U b n fuel (m + 1) (by omega) (by omega)
        refine ⟨by have := ih.le; omega, ih.top, fun j h3 h4 => ?_, ih.hit⟩
        by_cases e : j = m
        · subst e
          cases h5 : U j <;> cases b <;> simp_all
        · exact ih.not j (by omega) h4
    · obtain rfl : m = n := by omega
      rw [if_neg hm]
      exact ⟨Nat.le_refl _, Nat.le_refl _, fun j h3 h4 => by omega, fun h => by omega⟩
def Sp.next (s : Sp) (b : Bool) (m : Nat) : Nat := nx s.has b s.n s.n m
theorem Sp.next_is (s : Sp) (b : Bool) {m : Nat} (h : m ≤ s.n) : IsNx s.has b s.n m (s.next b m) := nx_is _ _ _ _ _ h (by omega)

/-- The runs from m on. -/
def runsF (U : Nat → Bool) (n : Nat) : Nat → Nat → List (Nat × Nat)
  | 0, _ => []
  | fuel + 1, m =>
    let a := nx U true n n m
    if a < n then (a, nx U false n n a - a) :: runsF U n fuel (nx U false n n a) else []
def Sp.runs (s : Sp) : List (Nat × Nat) := runsF s.has s.n (s.n + 1) 0

/-- How many of the first blocks are used. -/
def cnt (U : Nat → Bool) : Nat → Nat
  | 0 => 0
  | n + 1 => cnt U n + (if U n then 1 else 0)
theorem cnt_le (U : Nat → Bool) (n : Nat) : cnt U n ≤ n := by
  induction n with
  | zero => exact Nat.le_refl _
  | succ n ih => unfold cnt; split <;> omega
theorem cnt_ext {U V : Nat → Bool} {n : Nat} (h : ∀ k, k < n → U k = V k) : cnt U n = cnt V n := by
  induction n with
  | zero => rfl
  | succ n ih => unfold cnt; rw [ih (fun k hk => h k (by omega)), h n (by omega)]
theorem cnt_turn {U V : Nat → Bool} {n k : Nat} (hk : k < n) (h : ∀ m, m ≠ k → V m = U m) (h1 : U k = false) (h2 : V k = true) : cnt V n = cnt U n + 1 := by
  induction n with
  | zero => omega
  | succ n ih =>
    unfold cnt
    by_cases e : k = n
    · subst e
      rw [cnt_ext (U := V) (V := U) (fun m hm => h m (by omega)), h1, h2]
      simp
    · rw [ih (by omega), h n (by omega)]
      omega
def Sp.used (s : Sp) : Nat := cnt s.has s.n
theorem Sp.used_le (s : Sp) : s.used ≤ s.n := cnt_le _ _
end Go.Proofs.YtlokplnapaghhaaDoor
