/- What bytes say of a space, as lists. -/
import Derived.Test.YtlokplnapaghhaaDoorNumber
namespace Go.Proofs.YtlokplnapaghhaaDoor

def chunks : Nat → List UInt8 → List (Nat × Nat)
  | 0, _ => []
  | k + 1, r => (told r, told (r.drop 4)) :: chunks k (r.drop 8)
theorem chunks_length (k : Nat) (r : List UInt8) : (chunks k r).length = k := by
  induction k generalizing r with
  | zero => rfl
  | succ k ih => simp [chunks, ih]
theorem be4_take (r : List UInt8) (h : 4 ≤ r.length) : be4 (told r) = r.take 4 := be4_told r h
theorem encR_chunks (k : Nat) (r : List UInt8) (h : r.length = 8 * k) : encR (chunks k r) = r := by
  induction k generalizing r with
  | zero => simp [chunks, encR]; exact (List.eq_nil_of_length_eq_zero (by omega))
  | succ k ih =>
    simp only [chunks, encR]
    rw [ih (r.drop 8) (by simp; omega), be4_take r (by omega), be4_take (r.drop 4) (by simp; omega)]
    have e : r.drop 8 = (r.drop 4).drop 4 := by rw [List.drop_drop]
    rw [e, List.append_assoc, List.take_append_drop, List.take_append_drop]
def small (L : List (Nat × Nat)) : Prop := ∀ r ∈ L, r.1 < 4294967296 ∧ r.2 < 4294967296
theorem Runs.small {n m : Nat} {L : List (Nat × Nat)} (h : Runs n m L) (hn : n ≤ 65536) : small L := by
  induction h with
  | nil => intro r hr; simp at hr
  | cons h1 h2 h3 _ ih =>
    intro r hr
    rcases List.mem_cons.1 hr with rfl | hr
    · exact ⟨by omega, by omega⟩
    · exact ih r hr
theorem chunks_encR (L : List (Nat × Nat)) (h : small L) (r : List UInt8) : chunks L.length (encR L ++ r) = L := by
  induction L generalizing r with
  | nil => rfl
  | cons q L ih =>
    have hq := h q (by simp)
    simp only [List.length_cons, chunks, encR]
    have e1 : be4 q.1 ++ be4 q.2 ++ encR L ++ r = be4 q.1 ++ (be4 q.2 ++ (encR L ++ r)) := by simp
    rw [e1, told_be4 q.1 hq.1]
    have e2 : (be4 q.1 ++ (be4 q.2 ++ (encR L ++ r))).drop 4 = be4 q.2 ++ (encR L ++ r) := List.drop_left' (be4_length _)
    rw [e2, told_be4 q.2 hq.2]
    have e3 : (be4 q.1 ++ (be4 q.2 ++ (encR L ++ r))).drop 8 = encR L ++ r := by
      rw [show (8 : Nat) = 4 + 4 by rfl, ← List.drop_drop, e2]
      exact List.drop_left' (be4_length _)
    rw [e3, ih (fun x hx => h x (by simp [hx]))]
/-- The runs that bytes tell. -/
def runsOf (bs : List UInt8) : List (Nat × Nat) := chunks ((bs.length - 4) / 8) (bs.drop 4)
/-- Bytes of a space of so many blocks. -/
structure Dec (n : Nat) (bs : List UInt8) : Prop where
  head : 4 ≤ bs.length
  even : (bs.length - 4) % 8 = 0
  count : (bs.length - 4) / 8 = told bs
  runs : Runs n 0 (runsOf bs)
def encL (L : List (Nat × Nat)) : List UInt8 := be4 L.length ++ encR L
theorem Sp.enc_is (s : Sp) : s.enc = encL s.runs := rfl
theorem Dec.is {n : Nat} {bs : List UInt8} (h : Dec n bs) : bs = encL (runsOf bs) := by
  have hl := chunks_length ((bs.length - 4) / 8) (bs.drop 4)
  unfold encL runsOf
  rw [hl, encR_chunks _ _ (by have := h.even; have := h.head; simp; omega), h.count, be4_take bs h.head, List.take_append_drop]
theorem dec_enc {n : Nat} {L : List (Nat × Nat)} (h : Runs n 0 L) (hn : n ≤ 65536) (hL : L.length ≤ 65536) : Dec n (encL L) ∧ runsOf (encL L) = L := by
  have hl : (encL L).length = 4 + 8 * L.length := by unfold encL; rw [List.length_append, be4_length, encR_length]
  have e1 : ((encL L).length - 4) / 8 = L.length := by omega
  have e2 : (encL L).drop 4 = encR L := List.drop_left' (be4_length _)
  have e3 : runsOf (encL L) = L := by
    unfold runsOf
    rw [e1, e2]
    have := chunks_encR L (h.small hn) []
    rwa [List.append_nil] at this
  refine ⟨⟨by omega, by omega, ?_, by rw [e3]; exact h⟩, e3⟩
  rw [e1]
  exact (told_be4 L.length (by omega) _).symm
/-- Some runs ahead of others: the next one may begin at m. -/
structure Ahead (n : Nat) (L : List (Nat × Nat)) (m : Nat) : Prop where
  iff : ∀ M, Runs n 0 (L ++ M) ↔ Runs n m M
  off : ∀ k, m ≤ k → inRuns L k = false
  le : m ≤ n + 1
theorem Ahead.nil (n : Nat) : Ahead n [] 0 := ⟨fun _ => Iff.rfl, fun _ _ => rfl, by omega⟩
theorem inRuns_append (L M : List (Nat × Nat)) (k : Nat) : inRuns (L ++ M) k = (inRuns L k || inRuns M k) := by simp [inRuns]
theorem Ahead.snoc {n m a c : Nat} {L : List (Nat × Nat)} (h : Ahead n L m) (h1 : m ≤ a) (h2 : 1 ≤ c) (h3 : a + c ≤ n) : Ahead n (L ++ [(a, c)]) (a + c + 1) := by
  refine ⟨fun M => ?_, fun k hk => ?_, by omega⟩
  · rw [List.append_assoc, h.iff]
    constructor
    · intro hh
      cases hh with
      | cons _ _ _ h7 => exact h7
    · intro hh
      exact .cons h1 h2 h3 hh
  · rw [inRuns_append, h.off k (by omega)]
    simp [inRuns]; omega
theorem Ahead.bad {n m a c : Nat} {L M : List (Nat × Nat)} (h : Ahead n L m) (hb : a < m ∨ c < 1 ∨ n < a + c) : ¬ Runs n 0 (L ++ (a, c) :: M) := by
  rw [h.iff]
  intro hh
  cases hh with
  | cons h1 h2 h3 _ => omega
end Go.Proofs.YtlokplnapaghhaaDoor
