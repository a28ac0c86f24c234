/- Leaves as lists: how many bytes entries have, what is wrong with them, their bytes, and how these are read. -/
import Derived.Test.YtgifnaahahfhbaaKeys
namespace Go.Proofs.Ytgifnaahahfhbaa

/-- An entry. -/
structure En where
  k : Key
  v : Key
  deriving Inhabited, DecidableEq
/-- The bytes of an entry behind a key. -/
def enLen (p : Key) (e : En) : Nat := 6 + e.k.length - comK p e.k + e.v.length
def bytesF (p : Key) : List En → Nat
  | [] => 0
  | e :: r => enLen p e + bytesF e.k r
/-- Bytes. -/
def bytesE (l : List En) : Nat := 2 + bytesF [] l
/-- The key ahead of a place, if the first key of all stands behind p. -/
def prevF (p : Key) : List En → Nat → Key
  | _, 0 => p
  | [], _ + 1 => p
  | e :: r, i + 1 => prevF e.k r i
def prevK (l : List En) (i : Nat) : Key := prevF [] l i
theorem prevK_zero (l : List En) : prevK l 0 = [] := by cases l <;> rfl
theorem prevF_succ (p : Key) (l : List En) (i : Nat) (e : En) (h : l[i]? = some e) : prevF p l (i + 1) = e.k := by
  induction l generalizing p i with
  | nil => simp at h
  | cons x r ih =>
    cases i with
    | zero => simp at h; subst h; cases r <;> rfl
    | succ i => exact ih x.k i (by simpa using h)
theorem prevK_succ {l : List En} {i : Nat} {e : En} (h : l[i]? = some e) : prevK l (i + 1) = e.k := prevF_succ _ _ _ _ h
theorem comK_nil (k : Key) : comK [] k = 0 := by simp [comK]
theorem bytesF_take (p : Key) (l : List En) (i : Nat) (e : En) (h : l[i]? = some e) : bytesF p (l.take (i + 1)) = bytesF p (l.take i) + enLen (prevF p l i) e := by
  induction l generalizing p i with
  | nil => simp at h
  | cons x r ih =>
    cases i with
    | zero => simp at h; subst h; simp [bytesF, prevF]
    | succ i =>
      have := ih x.k i (by simpa using h)
      rw [List.take_succ_cons, List.take_succ_cons]
      simp only [bytesF, prevF, this]
      omega
theorem bytesE_take {l : List En} {i : Nat} {e : En} (h : l[i]? = some e) : bytesE (l.take (i + 1)) = bytesE (l.take i) + enLen (prevK l i) e := by
  unfold bytesE; rw [bytesF_take _ _ _ _ h]; unfold prevK; omega
theorem enLen_le (p : Key) (e : En) : enLen p e ≤ 6 + e.k.length + e.v.length := by unfold enLen; omega
theorem enLen_ge (p : Key) (e : En) : 6 + e.v.length ≤ enLen p e := by have := comK_right p e.k; unfold enLen; omega
/-- How many bytes and entries. -/
def weightE : List En → Nat
  | [] => 0
  | e :: r => 1 + e.k.length + e.v.length + weightE r
theorem bytesF_weight (p : Key) (l : List En) : bytesF p l ≤ 6 * weightE l := by
  induction l generalizing p with
  | nil => simp [bytesF, weightE]
  | cons e r ih => have := ih e.k; have := enLen_le p e; simp only [bytesF, weightE]; omega
theorem weightE_take (l : List En) (i : Nat) : weightE (l.take i) ≤ weightE l := by
  induction l generalizing i with
  | nil => simp
  | cons e r ih => cases i with
    | zero => simp [weightE]
    | succ i => have := ih i; rw [List.take_succ_cons]; simp only [weightE]; omega
theorem weightE_take_succ {l : List En} {i : Nat} {e : En} (h : l[i]? = some e) : weightE (l.take (i + 1)) = weightE (l.take i) + (1 + e.k.length + e.v.length) := by
  induction l generalizing i with
  | nil => simp at h
  | cons x r ih =>
    cases i with
    | zero => simp at h; subst h; simp [weightE]
    | succ i => have := ih (i := i) (by simpa using h); rw [List.take_succ_cons, List.take_succ_cons]; simp only [weightE, this]; omega
theorem weightE_mem {l : List En} {e : En} (h : e ∈ l) : 1 + e.k.length + e.v.length ≤ weightE l := by
  induction l with
  | nil => simp at h
  | cons x r ih =>
    simp only [weightE]
    rcases List.mem_cons.1 h with rfl | h
    · omega
    · have := ih h; omega
theorem weightE_length (l : List En) : l.length ≤ weightE l := by
  induction l with
  | nil => simp
  | cons e r ih => simp only [weightE, List.length_cons]; omega

/-- What is wrong with an entry behind a key. -/
def faultAt (s : Nat) (p : Key) (e : En) : Nat :=
  if e.k.length = 0 ∨ s / 16 < e.k.length then 51 else if s / 4 < e.v.length then 52 else if p < e.k then 0 else 53
def faultF (s : Nat) (p : Key) : List En → Nat
  | [] => 0
  | e :: r => if faultAt s p e = 0 then faultF s e.k r else faultAt s p e
def faultE (s : Nat) (l : List En) : Nat := faultF s [] l
theorem faultF_some (s : Nat) (p : Key) (l : List En) (i : Nat) (e : En) (h : l[i]? = some e) (h0 : faultF s p (l.take i) = 0) (hne : faultAt s (prevF p l i) e ≠ 0) : faultF s p l = faultAt s (prevF p l i) e := by
  induction l generalizing p i with
  | nil => simp at h
  | cons x r ih =>
    cases i with
    | zero => simp at h; subst h; simp only [prevF] at hne ⊢; simp [faultF, hne]
    | succ i =>
      rw [List.take_succ_cons] at h0
      simp only [faultF, prevF] at h0 hne ⊢
      by_cases hx : faultAt s p x = 0
      · rw [if_pos hx] at h0 ⊢; exact ih x.k i (by simpa using h) h0 hne
      · rw [if_neg hx] at h0; exact absurd h0 hx
theorem faultF_take (s : Nat) (p : Key) (l : List En) (i : Nat) (e : En) (h : l[i]? = some e) (h0 : faultF s p (l.take i) = 0) (he : faultAt s (prevF p l i) e = 0) : faultF s p (l.take (i + 1)) = 0 := by
  induction l generalizing p i with
  | nil => simp at h
  | cons x r ih =>
    cases i with
    | zero => simp at h; subst h; simp only [prevF] at he; simp [faultF, he]
    | succ i =>
      rw [List.take_succ_cons] at h0 ⊢
      simp only [faultF, prevF] at h0 he ⊢
      by_cases hx : faultAt s p x = 0
      · rw [if_pos hx] at h0 ⊢; exact ih x.k i (by simpa using h) h0 he
      · rw [if_neg hx] at h0; exact absurd h0 hx
theorem faultAt_codes (s : Nat) (p : Key) (e : En) : faultAt s p e = 0 ∨ faultAt s p e = 51 ∨ faultAt s p e = 52 ∨ faultAt s p e = 53 := by
  unfold faultAt; grind
theorem faultF_codes (s : Nat) (p : Key) (l : List En) : faultF s p l = 0 ∨ faultF s p l = 51 ∨ faultF s p l = 52 ∨ faultF s p l = 53 := by
  induction l generalizing p with
  | nil => simp [faultF]
  | cons e r ih =>
    simp only [faultF]
    split
    · exact ih e.k
    · exact faultAt_codes s p e

/-- The sizes. -/
def Sized (z : Int) : Prop := z = 512 ∨ z = 1024 ∨ z = 2048 ∨ z = 4096
instance (z : Int) : Decidable (Sized z) := by unfold Sized; infer_instance
/-- Check's answer. -/
def checkE (z : Int) (l : List En) : Nat :=
  if ¬ Sized z then 1 else if faultE z.toNat l ≠ 0 then faultE z.toNat l else if z.toNat - 32 < bytesE l then 54 else 0

/-- Two bytes of a number. -/
def two (n : Nat) : Key := [UInt8.ofNat (n / 256), UInt8.ofNat n]
def enB (p : Key) (e : En) : Key := two (comK p e.k) ++ two (e.k.length - comK p e.k) ++ two e.v.length ++ e.k.drop (comK p e.k) ++ e.v
def encF (p : Key) : List En → Key
  | [] => []
  | e :: r => enB p e ++ encF e.k r
/-- Encode's bytes. -/
def encE (l : List En) : Key := two l.length ++ encF [] l
theorem enB_length (p : Key) (e : En) : (enB p e).length = enLen p e := by
  have := comK_right p e.k
  simp [enB, two, enLen]; omega
theorem encF_length (p : Key) (l : List En) : (encF p l).length = bytesF p l := by
  induction l generalizing p with
  | nil => rfl
  | cons e r ih => simp [encF, bytesF, enB_length, ih]
theorem encE_length (l : List En) : (encE l).length = bytesE l := by simp [encE, bytesE, encF_length, two]; omega
theorem encF_take (p : Key) (l : List En) (i : Nat) (e : En) (h : l[i]? = some e) : encF p (l.take (i + 1)) = encF p (l.take i) ++ enB (prevF p l i) e := by
  induction l generalizing p i with
  | nil => simp at h
  | cons x r ih =>
    cases i with
    | zero => simp at h; subst h; simp [encF, prevF]
    | succ i =>
      have := ih x.k i (by simpa using h)
      rw [List.take_succ_cons, List.take_succ_cons]
      simp only [encF, prevF, this, List.append_assoc]

/-- What two bytes say. -/
def num2 (b : Key) : Nat := 256 * (b.getD 0 0).toNat + (b.getD 1 0).toNat
theorem two_num {a b : UInt8} : two (256 * a.toNat + b.toNat) = [a, b] := by
  have h1 := a.toNat_lt
  have h2 := b.toNat_lt
  unfold two
  have e1 : (256 * a.toNat + b.toNat) / 256 = a.toNat := by omega
  rw [e1]
  congr 1
  · exact UInt8.ofNat_toNat
  · congr 1
    rw [← UInt8.toNat_inj, UInt8.toNat_ofNat']
    omega
theorem num2_two {n : Nat} (h : n < 65536) (r : Key) : num2 (two n ++ r) = n := by
  simp [num2, two]
  omega
/-- An entry read behind a key: its three numbers must fit. -/
def read1 (p b : Key) : Option (Nat × En × Key) :=
  if b.length < 6 then none else
    let s := num2 b
    let n := num2 (b.drop 2)
    let v := num2 (b.drop 4)
    let r := b.drop 6
    if s ≤ p.length ∧ n + v ≤ r.length then some (s, ⟨p.take s ++ r.take n, (r.drop n).take v⟩, r.drop (n + v)) else none
/-- Entries read, each of one form. -/
def readF : Nat → Key → Key → Option (List En × Key)
  | 0, _, b => some ([], b)
  | n + 1, p, b =>
    match read1 p b with
    | none => none
    | some (s, e, r) => if comK p e.k = s then (readF n e.k r).map fun x => (e :: x.1, x.2) else none
/-- Decode's answer. -/
def decE (z : Int) (b : Key) : Option (List En) :=
  if z.toNat - 32 < b.length ∨ b.length < 2 then none else
    match readF (num2 b) [] (b.drop 2) with
    | some (l, []) => if checkE z l = 0 then some l else none
    | _ => none

theorem read1_enB {p : Key} {e : En} (r : Key) (hk : e.k.length < 65536) (hv : e.v.length < 65536) : read1 p (enB p e ++ r) = some (comK p e.k, e, r) := by
  have h1 := comK_right p e.k
  have h2 := comK_left p e.k
  have hl := enB_length p e
  have hge := enLen_ge p e
  unfold read1
  rw [if_neg (by simp; omega)]
  have e0 : num2 (enB p e ++ r) = comK p e.k := by
    unfold enB; simp only [List.append_assoc]; exact num2_two (by omega) _
  have e1 : num2 ((enB p e ++ r).drop 2) = e.k.length - comK p e.k := by
    have : (enB p e ++ r).drop 2 = two (e.k.length - comK p e.k) ++ (two e.v.length ++ (e.k.drop (comK p e.k) ++ (e.v ++ r))) := by
      unfold enB; simp only [List.append_assoc]; rfl
    rw [this]; exact num2_two (by omega) _
  have e2 : num2 ((enB p e ++ r).drop 4) = e.v.length := by
    have : (enB p e ++ r).drop 4 = two e.v.length ++ (e.k.drop (comK p e.k) ++ (e.v ++ r)) := by
      unfold enB; simp only [List.append_assoc]; rfl
    rw [this]; exact num2_two (by omega) _
  have e3 : (enB p e ++ r).drop 6 = e.k.drop (comK p e.k) ++ (e.v ++ r) := by
    unfold enB; simp only [List.append_assoc]; rfl
  simp only [e0, e1, e2, e3]
  rw [if_pos (by simp; omega)]
  have hd : (e.k.drop (comK p e.k)).length = e.k.length - comK p e.k := by simp
  congr 1
  congr 1
  congr 1
  · rw [← hd, List.take_left, List.drop_left, List.take_left, comK_take, List.take_append_drop]
  · rw [← List.drop_drop, ← hd, List.drop_left, List.drop_left]
theorem read1_form {p b : Key} {s : Nat} {e : En} {r : Key} (h : read1 p b = some (s, e, r)) (hs : comK p e.k = s) : b = enB p e ++ r := by
  unfold read1 at h
  split at h
  · cases h
  · rename_i hb
    rcases b with _ | ⟨a0, _ | ⟨a1, _ | ⟨a2, _ | ⟨a3, _ | ⟨a4, _ | ⟨a5, t⟩⟩⟩⟩⟩⟩
    all_goals try (simp at hb; done)
    simp only [num2, List.getD_cons_zero, List.getD_cons_succ, List.drop_succ_cons, List.drop_zero] at h
    split at h
    · rename_i hc
      obtain ⟨hc1, hc2⟩ := hc
      simp only [Option.some.injEq, Prod.mk.injEq] at h
      obtain ⟨rfl, rfl, rfl⟩ := h
      simp only at hs
      unfold enB
      simp only [hs]
      have hl : (p.take (256 * a0.toNat + a1.toNat)).length = 256 * a0.toNat + a1.toNat := by simp; omega
      have hn : (t.take (256 * a2.toNat + a3.toNat)).length = 256 * a2.toNat + a3.toNat := by simp; omega
      have hv : ((t.drop (256 * a2.toNat + a3.toNat)).take (256 * a4.toNat + a5.toNat)).length = 256 * a4.toNat + a5.toNat := by simp; omega
      rw [List.length_append, hl, hn, hv, Nat.add_sub_cancel_left, two_num, two_num, two_num, List.drop_append_of_le_length (by omega), List.drop_of_length_le (by omega)]
      simp only [List.nil_append, List.cons_append, List.append_assoc]
      rw [← List.drop_drop (i := 256 * a4.toNat + a5.toNat) (j := 256 * a2.toNat + a3.toNat) (l := t), List.take_append_drop, List.take_append_drop]
    · cases h
theorem readF_encF (p : Key) (l : List En) (r : Key) (h : ∀ e ∈ l, e.k.length < 65536 ∧ e.v.length < 65536) : readF l.length p (encF p l ++ r) = some (l, r) := by
  induction l generalizing p with
  | nil => rfl
  | cons e t ih =>
    obtain ⟨h1, h2⟩ := h e (List.mem_cons_self ..)
    simp only [List.length_cons, readF, encF, List.append_assoc, read1_enB _ h1 h2, if_true]
    rw [ih e.k (fun x hx => h x (List.mem_cons_of_mem _ hx))]
    rfl
theorem readF_form (n : Nat) (p b : Key) (l : List En) (r : Key) (h : readF n p b = some (l, r)) : l.length = n ∧ b = encF p l ++ r := by
  induction n generalizing p b l r with
  | zero => simp [readF] at h; obtain ⟨rfl, rfl⟩ := h; exact ⟨rfl, rfl⟩
  | succ n ih =>
    simp only [readF] at h
    split at h
    · cases h
    · rename_i s e t he
      split at h
      · rename_i hs
        cases hr : readF n e.k t with
        | none => rw [hr] at h; cases h
        | some x =>
          rw [hr] at h
          simp only [Option.map_some, Option.some.injEq, Prod.mk.injEq] at h
          obtain ⟨rfl, rfl⟩ := h
          obtain ⟨h1, h2⟩ := ih e.k t x.1 x.2 hr
          refine ⟨by simp [h1], ?_⟩
          rw [read1_form he hs, h2, encF, List.append_assoc]
      · cases h

theorem checkE_ok {z : Int} {l : List En} (h : checkE z l = 0) : Sized z ∧ faultE z.toNat l = 0 ∧ bytesE l ≤ z.toNat - 32 := by
  unfold checkE at h
  split at h
  · cases h
  · rename_i hs
    split at h
    · rename_i hf; exact absurd h hf
    · rename_i hf
      split at h
      · cases h
      · exact ⟨Classical.not_not.1 hs, Classical.not_not.1 hf, by omega⟩
theorem bytesF_length (p : Key) (l : List En) : 6 * l.length ≤ bytesF p l := by
  induction l generalizing p with
  | nil => simp
  | cons e r ih => have := ih e.k; have := enLen_ge p e; simp only [bytesF, List.length_cons]; omega
theorem sized_le {z : Int} (h : Sized z) : z.toNat ≤ 4096 ∧ 512 ≤ z.toNat := by rcases h with h | h | h | h <;> subst h <;> decide
theorem faultF_mem {s : Nat} {p : Key} {l : List En} (h : faultF s p l = 0) : ∀ e ∈ l, e.k.length ≠ 0 ∧ e.k.length ≤ s / 16 ∧ e.v.length ≤ s / 4 := by
  induction l generalizing p with
  | nil => intro e he; simp at he
  | cons x r ih =>
    simp only [faultF] at h
    split at h
    · rename_i hx
      intro e he
      rcases List.mem_cons.1 he with rfl | he
      · unfold faultAt at hx
        split at hx
        · cases hx
        · split at hx
          · cases hx
          · omega
      · exact ih h e he
    · rename_i hx; exact absurd h hx
/-- Decode tells just what Encode makes. -/
theorem decE_iff {z : Int} {b : Key} {l : List En} (hz : Sized z) : decE z b = some l ↔ checkE z l = 0 ∧ encE l = b := by
  have hs := sized_le hz
  constructor
  · intro h
    unfold decE at h
    split at h
    · cases h
    · rename_i hb
      split at h
      · rename_i l' hr
        split at h
        · rename_i hc
          cases h
          refine ⟨hc, ?_⟩
          obtain ⟨h1, h2⟩ := readF_form _ _ _ _ _ hr
          rcases b with _ | ⟨a0, _ | ⟨a1, t⟩⟩
          · simp at hb
          · simp at hb
          · unfold encE
            rw [h1]
            simp only [num2, List.getD_cons_zero, List.getD_cons_succ, List.drop_succ_cons, List.drop_zero, List.append_nil] at h2 ⊢
            rw [two_num, h2]
            rfl
        · cases h
      · cases h
  · rintro ⟨hc, rfl⟩
    obtain ⟨_, hf, hb⟩ := checkE_ok hc
    have hl := encE_length l
    have h6 := bytesF_length [] l
    have hm := faultF_mem hf
    unfold decE
    rw [if_neg (by unfold bytesE at *; omega)]
    have e1 : num2 (encE l) = l.length := by unfold encE; exact num2_two (by unfold bytesE at *; omega) _
    have e2 : (encE l).drop 2 = encF [] l ++ [] := by unfold encE; simp [two]
    rw [e1, e2, readF_encF [] l [] (fun e he => by have := hm e he; omega)]
    simp [hc]
end Go.Proofs.Ytgifnaahahfhbaa
