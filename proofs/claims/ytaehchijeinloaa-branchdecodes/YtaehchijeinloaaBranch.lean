/- Children and the keys between them as lists: what may be a branch, its bytes, read again; a key's child; replaced; split. -/
import Derived.Test.YtaehchijeinloaaKeys
namespace Go.Proofs.Ytaehchijeinloaa

/-- Kids. -/
structure Kd where
  ps : List Int
  ks : List Key
  deriving DecidableEq, Inhabited
def Sized (z : Int) : Prop := z = 512 ∨ z = 1024 ∨ z = 2048 ∨ z = 4096
instance (z : Int) : Decidable (Sized z) := by unfold Sized; infer_instance
theorem sized_le {z : Int} (h : Sized z) : 512 ≤ z ∧ z ≤ 4096 := by rcases h with rfl | rfl | rfl | rfl <;> decide
def Kd.fit (d : Kd) : Bool := decide (0 < d.ps.length ∧ d.ks.length + 1 = d.ps.length)
def pagesOk (ps : List Int) : Bool := decide ((∀ p ∈ ps, 2 ≤ p ∧ p ≤ 65535) ∧ ps.Nodup)
def keysOk (z : Nat) (ks : List Key) : Bool := decide (∀ k ∈ ks, 1 ≤ k.length ∧ k.length ≤ z / 16)
def riseK (ks : List Key) : Bool := decide (ks.Pairwise (· < ·))
def bytesL (ks : List Key) : Nat := (ks.map fun k => 2 + k.length).sum
def bytesK (d : Kd) : Nat := 2 + 4 * d.ps.length + bytesL d.ks
theorem bytesL_cons (k : Key) (ks : List Key) : bytesL (k :: ks) = 2 + k.length + bytesL ks := rfl
theorem bytesL_append (a b : List Key) : bytesL (a ++ b) = bytesL a + bytesL b := by simp [bytesL]
theorem bytesL_take (ks : List Key) (i : Nat) (k : Key) (h : ks[i]? = some k) : bytesL (ks.take (i + 1)) = bytesL (ks.take i) + (2 + k.length) := by
  rw [List.take_add_one, h, bytesL_append]; rfl
theorem bytesL_drop (ks : List Key) (i : Nat) (k : Key) (h : ks[i]? = some k) : bytesL (ks.drop i) = 2 + k.length + bytesL (ks.drop (i + 1)) := by
  obtain ⟨h1, rfl⟩ := List.getElem?_eq_some_iff.1 h
  rw [List.drop_eq_getElem_cons h1, bytesL_cons]
def checkK (z : Int) (d : Kd) : Nat :=
  if ¬ Sized z then 1
  else if d.ps.length < 2 ∨ d.fit = false ∨ pagesOk d.ps = false then 61
  else if keysOk z.toNat d.ks = false then 62
  else if riseK d.ks = false then 63
  else if z.toNat - 32 < bytesK d then 64 else 0
theorem checkK_ok {z : Int} {d : Kd} (h : checkK z d = 0) : Sized z ∧ 2 ≤ d.ps.length ∧ d.fit = true ∧ pagesOk d.ps = true ∧ keysOk z.toNat d.ks = true ∧ riseK d.ks = true ∧ bytesK d ≤ z.toNat - 32 := by
  unfold checkK at h
  split at h
  · cases h
  · rename_i h1
    split at h
    · cases h
    · rename_i h2
      split at h
      · cases h
      · rename_i h3
        split at h
        · cases h
        · rename_i h4
          split at h
          · cases h
          · rename_i h5
            simp only [not_or, Bool.not_eq_false] at h1 h2 h3 h4 h5
            exact ⟨by simpa using h1, by omega, h2.2.1, h2.2.2, h3, h4, by omega⟩
theorem checkK_zero {z : Int} {d : Kd} (h1 : Sized z) (h2 : 2 ≤ d.ps.length) (h3 : d.fit = true) (h4 : pagesOk d.ps = true) (h5 : keysOk z.toNat d.ks = true) (h6 : riseK d.ks = true) (h7 : bytesK d ≤ z.toNat - 32) : checkK z d = 0 := by
  unfold checkK
  rw [if_neg (by simpa using h1), if_neg (by simp [h3, h4]; omega), if_neg (by simp [h5]), if_neg (by simp [h6]), if_neg (by omega)]
theorem fit_iff {d : Kd} : d.fit = true ↔ 0 < d.ps.length ∧ d.ks.length + 1 = d.ps.length := by simp [Kd.fit]
theorem pages_iff {ps : List Int} : pagesOk ps = true ↔ (∀ p ∈ ps, 2 ≤ p ∧ p ≤ 65535) ∧ ps.Nodup := by simp [pagesOk]
theorem keys_iff {z : Nat} {ks : List Key} : keysOk z ks = true ↔ ∀ k ∈ ks, 1 ≤ k.length ∧ k.length ≤ z / 16 := by simp [keysOk]
theorem rise_iff {ks : List Key} : riseK ks = true ↔ ks.Pairwise (· < ·) := by simp [riseK]
theorem bytesL_ge (ks : List Key) : 2 * ks.length ≤ bytesL ks := by
  induction ks with
  | nil => simp [bytesL]
  | cons k ks ih => rw [bytesL_cons]; simp; omega
theorem bytesL_mem {ks : List Key} {k : Key} (h : k ∈ ks) : 2 + k.length ≤ bytesL ks := by
  induction ks with
  | nil => simp at h
  | cons a r ih =>
    rw [bytesL_cons]
    rcases List.mem_cons.1 h with rfl | h
    · omega
    · have := ih h; omega
/-- What may be a branch is small. -/
theorem check_small {z : Int} {d : Kd} (h : checkK z d = 0) : d.ps.length < 1024 ∧ d.ks.length < 1024 ∧ bytesK d ≤ 4064 ∧ ∀ k ∈ d.ks, k.length ≤ 256 := by
  obtain ⟨h1, h2, h3, h4, h5, h6, h7⟩ := checkK_ok h
  have hz := sized_le h1
  have hk := (fit_iff.1 h3).2
  have hb := bytesL_ge d.ks
  unfold bytesK at h7
  refine ⟨by omega, by omega, by unfold bytesK; omega, fun k hk => ?_⟩
  have := (keys_iff.1 h5 k hk).2
  omega

/-- A number in two bytes, and in four. -/
def two (n : Nat) : Key := [UInt8.ofNat (n / 256), UInt8.ofNat (n % 256)]
def four (n : Nat) : Key := two (n / 65536) ++ two (n % 65536)
def num : Key → Nat := fun b => b.foldl (fun n c => n * 256 + c.toNat) 0
theorem two_length (n : Nat) : (two n).length = 2 := rfl
theorem four_length (n : Nat) : (four n).length = 4 := rfl
theorem num_two {n : Nat} (h : n < 65536) : num (two n) = n := by
  simp [num, two, UInt8.toNat_ofNat']; omega
theorem num_four {n : Nat} (h : n < 4294967296) : num (four n) = n := by
  simp [num, four, two, UInt8.toNat_ofNat']; omega
theorem u8_lt (c : UInt8) : c.toNat < 256 := c.toNat_lt
theorem u8_of (c : UInt8) (n : Nat) (h : n % 256 = c.toNat) : UInt8.ofNat n = c := by
  apply UInt8.toNat_inj.1
  rw [UInt8.toNat_ofNat']; exact h
theorem two_num (a b : UInt8) : two (num [a, b]) = [a, b] := by
  have ha := u8_lt a
  have hb := u8_lt b
  simp only [num, two, List.foldl_cons, List.foldl_nil]
  rw [u8_of a _ (by omega), u8_of b _ (by omega)]
theorem four_num (a b c e : UInt8) : four (num [a, b, c, e]) = [a, b, c, e] := by
  have ha := u8_lt a
  have hb := u8_lt b
  have hc := u8_lt c
  have he := u8_lt e
  simp only [num, four, two, List.foldl_cons, List.foldl_nil, List.cons_append, List.nil_append]
  rw [u8_of a _ (by omega), u8_of b _ (by omega), u8_of c _ (by omega), u8_of e _ (by omega)]
theorem num_bound (b : Key) : num b < 256 ^ b.length := by
  unfold num
  suffices h : ∀ (b : Key) (n k : Nat), n < 256 ^ k → b.foldl (fun n c => n * 256 + c.toNat) n < 256 ^ (k + b.length) by simpa using h b 0 0 (by decide)
  intro b
  induction b with
  | nil => intro n k h; simpa using h
  | cons c r ih =>
    intro n k h
    have hc := u8_lt c
    have := ih (n * 256 + c.toNat) (k + 1) (by rw [Nat.pow_succ]; omega)
    rw [List.foldl_cons, List.length_cons]
    rw [show k + (r.length + 1) = k + 1 + r.length by omega]
    exact this

/-- The bytes. -/
def encP (ps : List Int) : Key := ps.flatMap fun p => four p.toNat
def encKs (ks : List Key) : Key := ks.flatMap fun k => two k.length ++ k
def encK (d : Kd) : Key := two d.ps.length ++ encP d.ps ++ encKs d.ks
theorem encP_append (a b : List Int) : encP (a ++ b) = encP a ++ encP b := List.flatMap_append
theorem encKs_append (a b : List Key) : encKs (a ++ b) = encKs a ++ encKs b := List.flatMap_append
theorem encP_take (ps : List Int) (i : Nat) (p : Int) (h : ps[i]? = some p) : encP (ps.take (i + 1)) = encP (ps.take i) ++ four p.toNat := by
  rw [List.take_add_one, h, encP_append]; simp [encP]
theorem encKs_take (ks : List Key) (i : Nat) (k : Key) (h : ks[i]? = some k) : encKs (ks.take (i + 1)) = encKs (ks.take i) ++ two k.length ++ k := by
  rw [List.take_add_one, h, encKs_append, List.append_assoc]; simp [encKs]
theorem encP_length (ps : List Int) : (encP ps).length = 4 * ps.length := by
  induction ps with
  | nil => rfl
  | cons p ps ih => show (four p.toNat ++ encP ps).length = _; rw [List.length_append, ih, four_length]; simp; omega
theorem encKs_length (ks : List Key) : (encKs ks).length = bytesL ks := by
  induction ks with
  | nil => rfl
  | cons k ks ih => show ((two k.length ++ k) ++ encKs ks).length = _; rw [List.length_append, ih, List.length_append, two_length, bytesL_cons]
theorem encK_length (d : Kd) : (encK d).length = bytesK d := by
  unfold encK bytesK; rw [List.length_append, List.length_append, encP_length, encKs_length, two_length]

/-- Read: so many numbers, then so many keys; what is left. -/
def readP : Nat → Key → List Int
  | 0, _ => []
  | n + 1, b => (num (b.take 4) : Int) :: readP n (b.drop 4)
def readKs : Nat → Key → Option (List Key × Key)
  | 0, b => some ([], b)
  | n + 1, b => if b.length < 2 then none else if b.length < 2 + num (b.take 2) then none
      else (readKs n (b.drop (2 + num (b.take 2)))).map fun x => ((b.drop 2).take (num (b.take 2)) :: x.1, x.2)
def readK (b : Key) : Option (Kd × Key) :=
  if b.length < 2 then none else if b.length - 2 < 4 * num (b.take 2) then none
  else (readKs (num (b.take 2) - 1) ((b.drop 2).drop (4 * num (b.take 2)))).map fun x => (⟨readP (num (b.take 2)) (b.drop 2), x.1⟩, x.2)
theorem readP_length (n : Nat) (b : Key) : (readP n b).length = n := by
  induction n generalizing b with
  | zero => rfl
  | succ n ih => simp [readP, ih]
theorem readP_enc (ps : List Int) (r : Key) (h : ∀ p ∈ ps, 0 ≤ p ∧ p < 4294967296) : readP ps.length (encP ps ++ r) = ps := by
  induction ps with
  | nil => rfl
  | cons p ps ih =>
    have hp := h p (by simp)
    have e : encP (p :: ps) ++ r = four p.toNat ++ (encP ps ++ r) := by show (four p.toNat ++ encP ps) ++ r = _; rw [List.append_assoc]
    rw [e]
    show (num ((four p.toNat ++ (encP ps ++ r)).take 4) : Int) :: readP ps.length ((four p.toNat ++ (encP ps ++ r)).drop 4) = p :: ps
    rw [List.take_left' (four_length _), List.drop_left' (four_length _), num_four (by omega), ih (fun q hq => h q (by simp [hq]))]
    congr 1
    omega
theorem readP_back (n : Nat) (b : Key) (h : 4 * n ≤ b.length) : encP (readP n b) = b.take (4 * n) := by
  induction n generalizing b with
  | zero => simp [readP, encP]
  | succ n ih =>
    match b, h with
    | x :: y :: z :: u :: r, h =>
      show four (num [x, y, z, u] : Int).toNat ++ encP (readP n r) = _
      rw [Int.toNat_natCast, four_num, ih r (by simp at h; omega), show 4 * (n + 1) = 4 * n + 4 by omega]
      simp
    | [], h => simp at h
    | [_], h => simp at h; omega
    | [_, _], h => simp at h; omega
    | [_, _, _], h => simp at h; omega
theorem readKs_length (n : Nat) (b : Key) (x : List Key × Key) (h : readKs n b = some x) : x.1.length = n := by
  induction n generalizing b x with
  | zero => cases h; rfl
  | succ n ih =>
    unfold readKs at h
    split at h
    · cases h
    · split at h
      · cases h
      · obtain ⟨y, hy, rfl⟩ := Option.map_eq_some_iff.1 h
        simp [ih _ _ hy]
theorem readKs_enc (ks : List Key) (r : Key) (h : ∀ k ∈ ks, k.length < 65536) : readKs ks.length (encKs ks ++ r) = some (ks, r) := by
  induction ks with
  | nil => rfl
  | cons k ks ih =>
    have hk := h k (by simp)
    have e : encKs (k :: ks) ++ r = two k.length ++ (k ++ (encKs ks ++ r)) := by
      show ((two k.length ++ k) ++ encKs ks) ++ r = _; simp only [List.append_assoc]
    rw [e]
    have e2 : (two k.length ++ (k ++ (encKs ks ++ r))).take 2 = two k.length := List.take_left' rfl
    have e3 : (two k.length ++ (k ++ (encKs ks ++ r))).drop 2 = k ++ (encKs ks ++ r) := List.drop_left' rfl
    have e4 : (two k.length ++ (k ++ (encKs ks ++ r))).drop (2 + k.length) = encKs ks ++ r := by rw [← List.drop_drop, e3, List.drop_left' rfl]
    show readKs (ks.length + 1) _ = _
    unfold readKs
    rw [e2, num_two hk, if_neg (by simp [two_length]), if_neg (by simp [two_length]), e4, ih (fun q hq => h q (by simp [hq])), e3, List.take_left' rfl]
    rfl
theorem readKs_back (n : Nat) (b : Key) (x : List Key × Key) (h : readKs n b = some x) : encKs x.1 ++ x.2 = b := by
  induction n generalizing b x with
  | zero => cases h; rfl
  | succ n ih =>
    unfold readKs at h
    split at h
    · cases h
    · split at h
      · cases h
      · rename_i h1 h2
        obtain ⟨y, hy, rfl⟩ := Option.map_eq_some_iff.1 h
        have := ih _ _ hy
        match b, h1 with
        | p :: q :: s, _ =>
          simp only [List.take_succ_cons, List.take_zero, List.drop_succ_cons, List.drop_zero, List.length_cons] at *
          have h3 : num [p, q] ≤ s.length := by omega
          have hl : (s.take (num [p, q])).length = num [p, q] := by rw [List.length_take]; omega
          show ((two (s.take (num [p, q])).length ++ s.take (num [p, q])) ++ encKs y.1) ++ y.2 = _
          rw [hl, two_num, List.append_assoc, List.append_assoc, this]
          rw [show 2 + num [p, q] = num [p, q] + 1 + 1 by omega]
          simp
        | [], h1 => simp at h1
        | [_], h1 => simp at h1
theorem readK_enc (d : Kd) (r : Key) (hf : d.fit = true) (hl : d.ps.length < 65536) (hp : ∀ p ∈ d.ps, 0 ≤ p ∧ p < 4294967296) (hk : ∀ k ∈ d.ks, k.length < 65536) : readK (encK d ++ r) = some (d, r) := by
  obtain ⟨h0, h1⟩ := fit_iff.1 hf
  have e : encK d ++ r = two d.ps.length ++ (encP d.ps ++ (encKs d.ks ++ r)) := by unfold encK; simp only [List.append_assoc]
  rw [e]
  have e2 : (two d.ps.length ++ (encP d.ps ++ (encKs d.ks ++ r))).take 2 = two d.ps.length := List.take_left' rfl
  have e3 : (two d.ps.length ++ (encP d.ps ++ (encKs d.ks ++ r))).drop 2 = encP d.ps ++ (encKs d.ks ++ r) := List.drop_left' rfl
  unfold readK
  rw [e2, num_two hl, e3, if_neg (by simp [two_length]), if_neg (by simp [two_length, encP_length]), List.drop_left' (encP_length _), show d.ps.length - 1 = d.ks.length by omega, readKs_enc _ _ hk, readP_enc _ _ hp]
  rfl
theorem readK_back (b : Key) (d : Kd) (r : Key) (h : readK b = some (d, r)) : encK d ++ r = b ∧ d.ps.length < 65536 ∧ d.ks.length = d.ps.length - 1 := by
  unfold readK at h
  split at h
  · cases h
  · split at h
    · cases h
    · rename_i h1 h2
      obtain ⟨y, hy, e⟩ := Option.map_eq_some_iff.1 h
      obtain ⟨rfl, rfl⟩ := Prod.mk.injEq _ _ _ _ ▸ e
      have hb := readKs_back _ _ _ hy
      have hl := readKs_length _ _ _ hy
      have hn : num (b.take 2) < 65536 := by have := num_bound (b.take 2); rw [List.length_take, Nat.min_eq_left (by omega)] at this; simpa using this
      refine ⟨?_, by simpa [readP_length] using hn, by simpa [readP_length] using hl⟩
      match b, h1 with
      | p :: q :: s, _ =>
        simp only [List.take_succ_cons, List.take_zero, List.drop_succ_cons, List.drop_zero, List.length_cons] at *
        show (two (readP (num [p, q]) s).length ++ encP (readP (num [p, q]) s) ++ encKs y.1) ++ y.2 = _
        rw [readP_length, readP_back _ _ (by omega), two_num, List.append_assoc, List.append_assoc, hb, List.take_append_drop]
        rfl
      | [], h1 => simp at h1
      | [_], h1 => simp at h1
theorem check_enc {z : Int} {d : Kd} (h : checkK z d = 0) (r : Key) : readK (encK d ++ r) = some (d, r) := by
  obtain ⟨h1, h2, h3, h4, h5, h6, h7⟩ := checkK_ok h
  have hs := check_small h
  refine readK_enc d r h3 (by omega) (fun p hp => ?_) fun k hk => ?_
  · have := (pages_iff.1 h4).1 p hp; omega
  · have := hs.2.2.2 k hk; omega
/-- Decode. -/
def decK (z : Int) (b : Key) : Option Kd :=
  if Sized z ∧ b.length ≤ z.toNat - 32 then match readK b with
    | some (d, []) => if checkK z d = 0 then some d else none
    | _ => none
  else none
theorem decK_iff {z : Int} {b : Key} {d : Kd} : decK z b = some d ↔ checkK z d = 0 ∧ encK d = b := by
  constructor
  · intro h
    unfold decK at h
    split at h
    · split at h
      · rename_i d' hr
        split at h
        · cases h
          rename_i hc
          have := (readK_back _ _ _ hr).1
          exact ⟨hc, by simpa using this⟩
        · cases h
      · cases h
    · cases h
  · rintro ⟨hc, rfl⟩
    have hr := check_enc hc []
    rw [List.append_nil] at hr
    have hk := checkK_ok hc
    unfold decK
    rw [if_pos ⟨hk.1, by rw [encK_length]; exact hk.2.2.2.2.2.2⟩, hr]
    simp [hc]
/-- Nothing else begins as the bytes of a branch do. -/
theorem encK_alone {z : Int} {d d' : Kd} {r : Key} (h : checkK z d = 0) (h' : checkK z d' = 0) (e : encK d = encK d' ++ r) : r = [] := by
  have h1 := check_enc h []
  have h2 := check_enc h' r
  rw [List.append_nil, e, h2] at h1
  simp at h1
  exact h1.2
theorem decK_cut {z : Int} {d : Kd} (h : checkK z d = 0) (m : Nat) (hm : m < (encK d).length) : decK z ((encK d).take m) = none := by
  cases hd : decK z ((encK d).take m) with
  | none => rfl
  | some d' =>
    obtain ⟨h1, h2⟩ := decK_iff.1 hd
    have := encK_alone h h1 (r := (encK d).drop m) (by rw [h2, List.take_append_drop])
    have hl := congrArg List.length this
    rw [List.length_drop] at hl
    simp at hl; omega
theorem decK_more {z : Int} {d : Kd} (h : checkK z d = 0) (c : UInt8) : decK z (encK d ++ [c]) = none := by
  cases hd : decK z (encK d ++ [c]) with
  | none => rfl
  | some d' =>
    obtain ⟨h1, h2⟩ := decK_iff.1 hd
    have := encK_alone h1 h h2
    cases this

/-- A key's child. -/
def childK (ks : List Key) (k : Key) : Nat := ks.findIdx fun x => decide (k < x)
/-- Others in the place of some children. -/
def replK (d : Kd) (i j : Nat) (by' : Kd) : Kd := ⟨d.ps.take i ++ by'.ps ++ d.ps.drop j, d.ks.take i ++ by'.ks ++ d.ks.drop (j - 1)⟩
end Go.Proofs.Ytaehchijeinloaa
