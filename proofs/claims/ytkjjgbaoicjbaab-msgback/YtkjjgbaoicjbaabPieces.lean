/- Pieces on lists: they say of each key what the messages do. -/
import Derived.Test.YtkjjgbaoicjbaabPlaces
namespace Go.Proofs.Ytkjjgbaoicjbaab

/-- A piece. -/
structure Pc where
  put : Bool
  k : Key
  v : Key
  lo : Key
  hi : Key
  deriving DecidableEq, Inhabited
namespace Pc
def says (p : Pc) (k : Key) : Bool := if p.put then decide (p.k = k) else decide (p.lo ≤ k) && decide (k < p.hi)
def beg (p : Pc) : Key := if p.put then p.k else p.lo
def fin (p : Pc) : Key := if p.put then p.k ++ [0] else p.hi
structure Wf (p : Pc) : Prop where
  put : p.put = true → p.lo = [] ∧ p.hi = []
  gone : p.put = false → p.k = [] ∧ p.v = [] ∧ p.lo < p.hi
theorem says_iff (p : Pc) (k : Key) : p.says k = true ↔ p.beg ≤ k ∧ k < p.fin := by
  unfold says beg fin
  cases p.put with
  | true =>
    simp only [if_true]
    rw [← Ms.just_has]
    simp [Rg.has]
  | false => simp
theorem Wf.lt {p : Pc} (h : p.Wf) : p.beg < p.fin := by
  unfold beg fin
  cases hp : p.put with
  | true => simp only [if_true]; exact lt_append _ _ _
  | false => simpa using (h.gone hp).2.2
end Pc
def goneB (l : List Pc) (a b : Key) : List Pc :=
  match l.getLast? with
  | some p => if p.put = false ∧ p.hi = a then l.dropLast ++ [⟨false, p.k, p.v, p.lo, b⟩] else l ++ [⟨false, [], [], a, b⟩]
  | none => l ++ [⟨false, [], [], a, b⟩]
/-- The message that decides a key. -/
def decM (M : List Ms) (k : Key) : Option Ms := if lastM M k < 0 then none else M[(lastM M k).toNat]?
def getM (M : List Ms) (k : Key) : Option (Option Key) := (decM M k).map fun m => if m.kd = 1 then some m.va else none
def stepP (M : List Ms) (C : List Key) (l : List Pc) (n : Nat) : List Pc :=
  match C[n]? with
  | none => l
  | some a => match decM M a with
    | none => l
    | some m => if m.kd = 1 then l ++ [⟨true, a, m.va, [], []⟩] else goneB l a (C[n + 1]?.getD [])
def piecesN (M : List Ms) (C : List Key) : Nat → List Pc
  | 0 => []
  | n + 1 => stepP M C (piecesN M C n) n
def piecesM (M : List Ms) (C : List Key) : List Pc := piecesN M C C.length
theorem decM_none {M : List Ms} {k : Key} : decM M k = none ↔ lastM M k < 0 := by
  unfold decM
  split
  · simp [*]
  · rename_i h
    have := lastM_lt M k
    rw [List.getElem?_eq_none_iff]
    omega
theorem decM_some {M : List Ms} {k : Key} {m : Ms} (h : decM M k = some m) : 0 ≤ lastM M k ∧ m.says k = true ∧ m ∈ M := by
  unfold decM at h
  split at h
  · cases h
  · rename_i h0
    obtain ⟨i, m', h1, h2, h3, _⟩ := lastM_some (M := M) (k := k) (by omega)
    rw [h1] at h
    have : ((i : Int)).toNat = i := by omega
    rw [this, h2] at h
    cases h
    exact ⟨by omega, h3, List.mem_of_getElem? h2⟩
theorem decM_congr {M : List Ms} {k k' : Key} (h : ∀ m ∈ M, m.says k = m.says k') : decM M k = decM M k' := by
  unfold decM; rw [lastM_congr h]

structure PInv (M : List Ms) (C : List Key) (n : Nat) (l : List Pc) : Prop where
  wf : ∀ p ∈ l, p.Wf
  rise : l.Pairwise fun p q => p.fin ≤ q.beg ∧ (p.put = false → q.put = false → p.fin ≠ q.beg)
  upto : ∀ p ∈ l, ∀ c, C[n]? = some c → p.fin ≤ c
  hit : ∀ k, (∀ c, C[n]? = some c → k < c) → ∀ m, decM M k = some m → ∃ p ∈ l, p.says k = true
  is : ∀ k p, p ∈ l → p.says k = true → getM M k = some (if p.put then some p.v else none)
theorem PInv.zero {M : List Ms} {C : List Key} (h : IsCuts M C) : PInv M C 0 [] := by
  refine ⟨fun p hp => by simp at hp, by simp, fun p hp => by simp at hp, fun k hk m hm => ?_, fun k p hp => by simp at hp⟩
  obtain ⟨_, h1, h2⟩ := decM_some hm
  rw [h.ahead hk m h2] at h1
  cases h1
theorem getLast_eq {l : List Pc} {p : Pc} (h : l.getLast? = some p) : l = l.dropLast ++ [p] := by
  obtain ⟨ys, rfl⟩ := List.getLast?_eq_some_iff.1 h
  simp
theorem PInv.step {M : List Ms} {C : List Key} {n : Nat} {l : List Pc} (hC : IsCuts M C) (h : PInv M C n l) (hn : n < C.length) : PInv M C (n + 1) (stepP M C l n) := by
  obtain ⟨a, ha⟩ : ∃ a, C[n]? = some a := ⟨_, List.getElem?_eq_getElem hn⟩
  have hnext : ∀ b, C[n + 1]? = some b → a < b := fun b hb => hC.lt (by omega) ha hb
  have hup : ∀ p ∈ l, p.fin ≤ a := fun p hp => h.upto p hp a ha
  have hbtw : ∀ k, a ≤ k → (∀ b, C[n + 1]? = some b → k < b) → decM M k = decM M a := fun k h1 h2 => decM_congr fun m hm => hC.between ha h1 h2 m hm
  unfold stepP
  rw [ha]
  simp only
  cases hd : decM M a with
  | none =>
    simp only
    refine ⟨h.wf, h.rise, fun p hp c hc => ?_, fun k hk m hm => ?_, h.is⟩
    · have := hup p hp; have := hnext c hc; grind
    · by_cases h1 : k < a
      · exact h.hit k (fun c hc => by rw [ha] at hc; cases hc; exact h1) m hm
      · rw [hbtw k (by grind) hk, hd] at hm; cases hm
  | some m =>
    simp only
    obtain ⟨h0, hs, hmM⟩ := decM_some hd
    have hnl := hC.last ha h0
    obtain ⟨b, hb⟩ : ∃ b, C[n + 1]? = some b := ⟨_, List.getElem?_eq_getElem hnl⟩
    have hab := hnext b hb
    have hg : ∀ k, a ≤ k → k < b → getM M k = some (if m.kd = 1 then some m.va else none) := fun k h1 h2 => by
      unfold getM
      rw [hbtw k h1 (fun c hc => by rw [hb] at hc; cases hc; exact h2), hd]
      rfl
    have hnk : ∀ k p, p ∈ l → a ≤ k → p.says k = false := fun k p hp hk => by
      rw [← Bool.not_eq_true, Pc.says_iff]
      rintro ⟨_, h2⟩
      have := hup p hp
      grind
    split
    · rename_i hk1
      have hlo : m.lo = a := by
        rw [Ms.says_one m a (.inl hk1)] at hs
        simpa using hs
      have hb0 : b = a ++ [0] := by
        have h1 := next_least a b hab
        have h2 : m.rg.empty = false := Rg.not_empty _ _ (decM_some hd).2.1
        have h3 : m.rg.hi = a ++ [0] := by unfold Ms.rg; rw [if_pos (.inl hk1), hlo]
        have h4 : a ++ [0] ∈ C := (hC.mem _).2 ⟨m, hmM, h2, .inr h3.symm⟩
        obtain ⟨j, hj⟩ := List.getElem?_of_mem h4
        have h5 := lt_append a 0 []
        rcases Nat.lt_trichotomy j (n + 1) with h6 | h6 | h6
        · rcases Nat.lt_or_ge j n with h7 | h7
          · have := hC.lt h7 hj ha; grind
          · have : j = n := by omega
            subst this; rw [ha] at hj; have := Option.some.inj hj; grind
        · subst h6; rw [hb] at hj; cases hj; rfl
        · have := hC.lt h6 hb hj; grind
      refine ⟨fun p hp => ?_, ?_, fun p hp c hc => ?_, fun k hk m' hm' => ?_, fun k p hp hpk => ?_⟩
      · rcases List.mem_append.1 hp with hp | hp
        · exact h.wf p hp
        · simp at hp; subst hp; exact ⟨fun _ => ⟨rfl, rfl⟩, fun e => by cases e⟩
      · rw [List.pairwise_append]
        refine ⟨h.rise, by simp, fun p hp q hq => ?_⟩
        simp at hq; subst hq
        exact ⟨hup p hp, fun _ e => by cases e⟩
      · rw [hb] at hc; cases hc
        rcases List.mem_append.1 hp with hp | hp
        · have := hup p hp; grind
        · simp at hp; subst hp; simp [Pc.fin, hb0]
      · by_cases h1 : k < a
        · obtain ⟨p, hp, hs⟩ := h.hit k (fun c hc => by rw [ha] at hc; cases hc; exact h1) m' hm'
          exact ⟨p, List.mem_append_left _ hp, hs⟩
        · refine ⟨_, List.mem_append_right _ (List.mem_singleton.2 rfl), ?_⟩
          rw [Pc.says_iff]
          have := hk b hb
          simp only [Pc.beg, Pc.fin, if_true]
          exact ⟨by grind, by rw [← hb0]; exact this⟩
      · rcases List.mem_append.1 hp with hp | hp
        · exact h.is k p hp hpk
        · simp at hp; subst hp
          rw [Pc.says_iff] at hpk
          simp only [Pc.beg, Pc.fin, if_true] at hpk
          rw [hg k hpk.1 (by rw [hb0]; exact hpk.2), if_pos hk1]
          rfl
    · rename_i hk1
      rw [hb]
      simp only [Option.getD_some]
      have hg' : ∀ k, a ≤ k → k < b → getM M k = some none := fun k h1 h2 => by rw [hg k h1 h2, if_neg hk1]
      -- The new range stands alone.
      have alone : (∀ p, l.getLast? = some p → ¬ (p.put = false ∧ p.hi = a)) → PInv M C (n + 1) (l ++ [⟨false, [], [], a, b⟩]) := fun hlast => by
        refine ⟨fun p hp => ?_, ?_, fun p hp c hc => ?_, fun k hk m' hm' => ?_, fun k p hp hpk => ?_⟩
        · rcases List.mem_append.1 hp with hp | hp
          · exact h.wf p hp
          · simp at hp; subst hp; exact ⟨fun e => (by cases e), fun _ => ⟨rfl, rfl, hab⟩⟩
        · rw [List.pairwise_append]
          refine ⟨h.rise, by simp, fun p hp q hq => ?_⟩
          simp at hq; subst hq
          refine ⟨hup p hp, fun hpp _ he => ?_⟩
          simp only [Pc.beg, Bool.false_eq_true, if_false] at he
          cases hl : l.getLast? with
          | none => rw [List.getLast?_eq_none_iff] at hl; subst hl; simp at hp
          | some x =>
            have h1 := hlast x hl
            have h2 := getLast_eq hl
            rw [h2] at hp
            rcases List.mem_append.1 hp with hp | hp
            · have h3 := h.rise
              rw [h2, List.pairwise_append] at h3
              have h4 := (h3.2.2 p hp x (by simp)).1
              have h5 : x ∈ l := by rw [h2]; simp
              have h6 := hup x h5
              have h7 := (h.wf x h5).lt
              grind
            · simp at hp; subst hp
              exact h1 ⟨hpp, by rw [← he]; simp [Pc.fin, hpp]⟩
        · rw [hb] at hc; cases hc
          rcases List.mem_append.1 hp with hp | hp
          · have := hup p hp; grind
          · simp at hp; subst hp; simp [Pc.fin]
        · by_cases h1 : k < a
          · obtain ⟨p, hp, hs⟩ := h.hit k (fun c hc => by rw [ha] at hc; cases hc; exact h1) m' hm'
            exact ⟨p, List.mem_append_left _ hp, hs⟩
          · refine ⟨_, List.mem_append_right _ (List.mem_singleton.2 rfl), ?_⟩
            rw [Pc.says_iff]
            have := hk b hb
            simp only [Pc.beg, Pc.fin, Bool.false_eq_true, if_false]
            exact ⟨by grind, this⟩
        · rcases List.mem_append.1 hp with hp | hp
          · exact h.is k p hp hpk
          · simp at hp; subst hp
            rw [Pc.says_iff] at hpk
            simp only [Pc.beg, Pc.fin, Bool.false_eq_true, if_false] at hpk
            rw [hg' k hpk.1 hpk.2]
            rfl
      unfold goneB
      cases hl : l.getLast? with
      | none => exact alone (fun p hp => by rw [hl] at hp; cases hp)
      | some x =>
        simp only
        split
        · rename_i hx
          obtain ⟨hx1, hx2⟩ := hx
          have h2 := getLast_eq hl
          have hxl : x ∈ l := by rw [h2]; simp
          have hwx := (h.wf x hxl).gone hx1
          have hr := h.rise
          rw [h2, List.pairwise_append] at hr
          have hsub : ∀ p, p ∈ l.dropLast → p ∈ l := fun p hp => by rw [h2]; exact List.mem_append_left _ hp
          refine ⟨fun p hp => ?_, ?_, fun p hp c hc => ?_, fun k hk m' hm' => ?_, fun k p hp hpk => ?_⟩
          · rcases List.mem_append.1 hp with hp | hp
            · exact h.wf p (hsub p hp)
            · simp at hp; subst hp
              refine ⟨fun e => (by cases e), fun _ => ⟨hwx.1, hwx.2.1, ?_⟩⟩
              have := hwx.2.2
              simp only
              grind
          · rw [List.pairwise_append]
            refine ⟨hr.1, by simp, fun p hp q hq => ?_⟩
            simp at hq; subst hq
            have h3 := hr.2.2 p hp x (by simp)
            simp only [Pc.beg, hx1, Bool.false_eq_true, if_false] at h3 ⊢
            exact ⟨h3.1, fun e _ => h3.2 e trivial⟩
          · rw [hb] at hc; cases hc
            rcases List.mem_append.1 hp with hp | hp
            · have := hup p (hsub p hp); grind
            · simp at hp; subst hp; simp [Pc.fin]
          · by_cases h1 : k < a
            · obtain ⟨p, hp, hs⟩ := h.hit k (fun c hc => by rw [ha] at hc; cases hc; exact h1) m' hm'
              rw [h2] at hp
              rcases List.mem_append.1 hp with hp | hp
              · exact ⟨p, List.mem_append_left _ hp, hs⟩
              · simp at hp; subst hp
                refine ⟨_, List.mem_append_right _ (List.mem_singleton.2 rfl), ?_⟩
                rw [Pc.says_iff] at hs ⊢
                simp only [Pc.beg, Pc.fin, hx1, Bool.false_eq_true, if_false] at hs ⊢
                exact ⟨hs.1, by grind⟩
            · refine ⟨_, List.mem_append_right _ (List.mem_singleton.2 rfl), ?_⟩
              rw [Pc.says_iff]
              have := hk b hb
              have h3 := hwx.2.2
              simp only [Pc.beg, Pc.fin, Bool.false_eq_true, if_false]
              exact ⟨by grind, this⟩
          · rcases List.mem_append.1 hp with hp | hp
            · exact h.is k p (hsub p hp) hpk
            · simp at hp; subst hp
              rw [Pc.says_iff] at hpk
              simp only [Pc.beg, Pc.fin, Bool.false_eq_true, if_false] at hpk
              by_cases h1 : k < a
              · have := h.is k x hxl (by rw [Pc.says_iff]; simp only [Pc.beg, Pc.fin, hx1, Bool.false_eq_true, if_false]; exact ⟨hpk.1, by rw [hx2]; exact h1⟩)
                rw [this, hx1]
              · rw [hg' k (by grind) hpk.2]
                rfl
        · rename_i hx
          exact alone (fun p hp => by rw [hl] at hp; cases hp; exact hx)
theorem pieces_inv {M : List Ms} {C : List Key} (hC : IsCuts M C) (n : Nat) (hn : n ≤ C.length) : PInv M C n (piecesN M C n) := by
  induction n with
  | zero => exact PInv.zero hC
  | succ n ih => exact (ih (by omega)).step hC (by omega)
end Go.Proofs.Ytkjjgbaoicjbaab
