/- Seal and the document's Seal: one answer. -/
import Derived.Test.YtafkimhnllnopaaLent
namespace Go.Proofs.Ytafkimhnllnopaa
open Go.RowKit

/-- What Seal answers: which error, and which bytes. -/
def sealE (z k n : Int) (l : Nat) : Int := if sizedB z && mayB k n then (if z - 32 < l then 31 else 0) else 1
def sealB (z k n : Int) (g : Nat) (p : List UInt8) : List UInt8 := if sealE z k n p.length = 0 then sealed z.toNat k.toNat n.toNat g p else []
theorem sealE_ok {z k n : Int} {l : Nat} (hs : sizedB z = true) (hm : mayB k n = true) (hl : ¬ z - 32 < l) : sealE z k n l = 0 := by simp [sealE, hs, hm]; omega
theorem sealE_long {z k n : Int} {l : Nat} (hs : sizedB z = true) (hm : mayB k n = true) (hl : z - 32 < l) : sealE z k n l = 31 := by simp [sealE, hs, hm]; omega
theorem sealE_arg {z k n : Int} {l : Nat} (h : sizedB z = false ∨ mayB k n = false) : sealE z k n l = 1 := by
  rcases h with h | h <;> simp [sealE, h]
theorem sealB_len (z k n : Int) (g : Nat) (p : List UInt8) : (sealB z k n g p).length ≤ 4096 := by
  unfold sealB
  split
  · rename_i h
    have hs : sizedB z = true := by
      cases e : sizedB z with
      | true => rfl
      | false => rw [sealE_arg (.inl e)] at h; cases h
    have hm : mayB k n = true := by
      cases e : mayB k n with
      | true => rfl
      | false => rw [sealE_arg (.inr e)] at h; cases h
    have hb := sized_bounds hs
    have hl : ¬ z - 32 < p.length := fun e => by rw [sealE_long hs hm e] at h; cases h
    rw [sealed_length _ _ _ _ _ (by omega)]
    omega
  · simp
theorem own_row_full {w : World} {base q s : Nat} {L : List UInt8} (h : RowIs w q L) (hl : L.length = s) (hb : base ≤ q) (hs : s ≤ maxLen) : w.ownsRow base 5 1 (.slice (some ⟨q, 0, none⟩) s s) s (L.map encB) := by
  subst hl
  exact ⟨by simp, .inr ⟨q, L.length, _, rfl, hb, h, Nat.le_refl _, hs, by simp, by simp [List.take_of_length_le]⟩⟩

theorem seal_gen (w : World) (z k n : Int) (g l : Nat) (a : Option Addr) (cap : Nat) (p : List UInt8) (hb : BytesAt w.heap.size w a p) (hl : p.length = l) :
    Calls Try.prog 11 #[.int .i64 z, .agg #[.int .i64 k, .int .i64 n, .int .u64 (g : Int)], .slice a l cap] w fun e w' => ∃ v, e = .returned (.tuple #[v, .int .i64 (sealE z k n l)]) ∧ w'.ownsRow w.heap.size 5 1 v (sealB z k n g p).length ((sealB z k n g p).map encB) ∧ Below w.heap.size w w' := by
  subst hl
  by_cases h1 : sizedB z = true ∧ mayB k n = true
  · obtain ⟨hs, hm⟩ := h1
    have hz := sized_bounds hs
    have hk := may_bounds hm
    by_cases h2 : z - 32 < p.length
    · refine (seal_long z k n g a p.length cap w hs hm h2).mono ?_
      rintro e w' ⟨rfl, hbl⟩
      have e1 := sealE_long (l := p.length) hs hm h2
      refine ⟨.slice none 0 0, by rw [e1], ?_, hbl⟩
      rw [show sealB z k n g p = [] by simp [sealB, e1]]
      exact World.ownsRow_nil _ _ _ _
    · have e1 := sealE_ok (l := p.length) hs hm h2
      obtain ⟨s, rfl⟩ : ∃ s : Nat, z = (s : Int) := ⟨z.toNat, by omega⟩
      obtain ⟨K, rfl⟩ : ∃ K : Nat, k = (K : Int) := ⟨k.toNat, by omega⟩
      obtain ⟨N, rfl⟩ : ∃ N : Nat, n = (N : Int) := ⟨n.toNat, by omega⟩
      refine (seal_ok s K N g a cap p w hs hm hb (by omega)).mono ?_
      rintro e w' ⟨q, rfl, hq, hrow, hbl⟩
      have e2 : sealB s K N g p = sealed s K N g p := by simp [sealB, e1]
      have e3 := sealed_length s K N g p (by omega)
      refine ⟨_, by rw [e1], ?_, hbl⟩
      rw [e2, e3]
      exact own_row_full hrow e3 hq (by unfold maxLen; omega)
  · have h2 : sizedB z = false ∨ mayB k n = false := by
      cases e : sizedB z with
      | false => exact .inl rfl
      | true =>
        cases e' : mayB k n with
        | false => exact .inr rfl
        | true => exact absurd ⟨e, e'⟩ h1
    refine (seal_arg z k n g a p.length cap w h2).mono ?_
    rintro e w' ⟨rfl, hbl⟩
    have e1 := sealE_arg (l := p.length) h2
    refine ⟨.slice none 0 0, by rw [e1], ?_, hbl⟩
    rw [show sealB z k n g p = [] by simp [sealB, e1]]
    exact World.ownsRow_nil _ _ _ _

theorem refSeal_gen (w : World) (z k n : Int) (g l : Nat) (a : Option Addr) (cap : Nat) (p : List UInt8) (hb : BytesAt w.heap.size w a p) (hl : p.length = l) (na : a = none → cap = 0) :
    Calls Try.prog 12 #[.int .i64 z, .agg #[.int .i64 k, .int .i64 n, .int .u64 (g : Int)], .slice a l cap] w fun e w' => ∃ v, e = .returned (.tuple #[v, .int .i64 (sealE z k n l)]) ∧ w'.ownsRow w.heap.size 5 1 v (sealB z k n g p).length ((sealB z k n g p).map encB) ∧ Below w.heap.size w w' := by
  subst hl
  by_cases h1 : sizedB z = true ∧ mayB k n = true
  · obtain ⟨hs, hm⟩ := h1
    have hz := sized_bounds hs
    have hk := may_bounds hm
    by_cases h2 : z - 32 < p.length
    · refine (refSeal_long z k n g a p.length cap w hs hm h2).mono ?_
      rintro e w' ⟨rfl, hbl⟩
      have e1 := sealE_long (l := p.length) hs hm h2
      refine ⟨.slice none 0 0, by rw [e1], ?_, hbl⟩
      rw [show sealB z k n g p = [] by simp [sealB, e1]]
      exact World.ownsRow_nil _ _ _ _
    · have e1 := sealE_ok (l := p.length) hs hm h2
      obtain ⟨s, rfl⟩ : ∃ s : Nat, z = (s : Int) := ⟨z.toNat, by omega⟩
      obtain ⟨K, rfl⟩ : ∃ K : Nat, k = (K : Int) := ⟨k.toNat, by omega⟩
      obtain ⟨N, rfl⟩ : ∃ N : Nat, n = (N : Int) := ⟨n.toNat, by omega⟩
      refine (refSeal_ok s K N g p.length a cap p w hs hm hb rfl (by omega) na).mono ?_
      rintro e w' ⟨q, c, rfl, hrow, hbl⟩
      have e2 : sealB s K N g p = sealed s K N g p := by simp [sealB, e1]
      have e3 := sealed_length s K N g p (by omega)
      refine ⟨_, by rw [e1], ?_, hbl⟩
      rw [e2, e3]
      exact hrow
  · have h2 : sizedB z = false ∨ mayB k n = false := by
      cases e : sizedB z with
      | false => exact .inl rfl
      | true =>
        cases e' : mayB k n with
        | false => exact .inr rfl
        | true => exact absurd ⟨e, e'⟩ h1
    refine (refSeal_arg z k n g a p.length cap w h2).mono ?_
    rintro e w' ⟨rfl, hbl⟩
    have e1 := sealE_arg (l := p.length) h2
    refine ⟨.slice none 0 0, by rw [e1], ?_, hbl⟩
    rw [show sealB z k n g p = [] by simp [sealB, e1]]
    exact World.ownsRow_nil _ _ _ _
end Go.Proofs.Ytafkimhnllnopaa
