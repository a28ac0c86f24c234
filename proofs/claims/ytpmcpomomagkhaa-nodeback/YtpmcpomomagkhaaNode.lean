import Derived.Test.YtpmcpomomagkhaaPackPure
import Derived.Test.YtpmcpomomagkhaaBrSpan
/- Nodes on lists: which may be, their bytes, and how these are read. -/
namespace Go.Proofs.Ytpmcpomomagkhaa

/-- A node. -/
structure Nd where
  k : Kd
  ms : List Ms
  deriving DecidableEq
def roomN (z : Int) : Nat := if Sized z then z.toNat - 32 else 0
def homeN (d : Kd) (m : Ms) : Nat := childK d.ks m.lo
def insideN (d : Kd) (m : Ms) : Bool := decide (m.kd ≠ 3) || decide ((Br.spanR d ⟨m.lo, m.hi, false⟩ (homeN d m : Nat)).hi = m.hi)
def behindN (z : Int) (d : Kd) (a b : Ms) : Bool := if homeN d a = homeN d b then decide (checkM z [a, b] = 0) else decide (homeN d a < homeN d b)
def aheadN (z : Int) (d : Kd) (p : Option Ms) (m : Ms) : Bool := match p with
  | none => true
  | some a => behindN z d a m
def faultL (z : Int) (d : Kd) : Option Ms → List Ms → Nat
  | _, [] => 0
  | p, m :: r => if checkM z [m] ≠ 0 then checkM z [m] else if insideN d m = false then 83 else if aheadN z d p m = false then 72 else faultL z d (some m) r
def faultN (z : Int) (n : Nd) : Nat := faultL z n.k none n.ms
def bytesN (n : Nd) : Nat := bytesK n.k + (4 + sizesM n.ms)
def checkN (z : Int) (n : Nd) : Nat :=
  if checkK z n.k ≠ 0 then checkK z n.k else if roomN z / 2 < bytesK n.k then 81 else if faultN z n ≠ 0 then faultN z n else if roomN z < bytesN n then 82 else 0
def encN (n : Nd) : Key := encK n.k ++ (four n.ms.length ++ layL n.ms)
theorem faultL_may {z : Int} {d : Kd} {p : Option Ms} {l : List Ms} (h : faultL z d p l = 0) : ∀ m ∈ l, checkM z [m] = 0 := by
  induction l generalizing p with
  | nil => intro m hm; simp at hm
  | cons x r ih =>
    unfold faultL at h
    split at h
    · omega
    · rename_i h1
      split at h
      · cases h
      · split at h
        · cases h
        · intro m hm
          rcases List.mem_cons.1 hm with rfl | hm
          · omega
          · exact ih h m hm
theorem checkN_ok {z : Int} {n : Nd} (h : checkN z n = 0) : checkK z n.k = 0 ∧ bytesK n.k ≤ roomN z / 2 ∧ faultN z n = 0 ∧ bytesN n ≤ roomN z := by
  unfold checkN at h
  split at h
  · omega
  · split at h
    · cases h
    · split at h
      · omega
      · split at h
        · cases h
        · exact ⟨by omega, by omega, by omega, by omega⟩
theorem check_one {z : Int} {m : Ms} (h : checkM z [m] = 0) : Sized z ∧ m.may z.toNat = true ∧ 0 < m.st ∧ m.st ≤ 4611686018427387904 := by
  rw [checkM_zero] at h
  exact ⟨h.1, h.2.1 m (List.mem_singleton.2 rfl)⟩
theorem checkN_small {z : Int} {n : Nd} (h : checkN z n = 0) : Sized z ∧ bytesN n ≤ 4064 ∧ n.ms.length ≤ 400 ∧ ∀ m ∈ n.ms, checkM z [m] = 0 := by
  obtain ⟨h1, h2, h3, h4⟩ := checkN_ok h
  have hz := (checkK_ok h1).1
  have hr : roomN z ≤ 4064 := by unfold roomN; rw [if_pos hz]; have := sized_le hz; omega
  refine ⟨hz, by omega, ?_, faultL_may h3⟩
  have : ∀ M : List Ms, 13 * M.length ≤ sizesM M := by
    intro M
    induction M with
    | nil => simp [sizesM]
    | cons m r ih => rw [sizesM_cons, List.length_cons]; unfold sizeM; omega
  have := this n.ms
  unfold bytesN at h4
  omega
theorem lay_sizes {z : Int} {l : List Ms} (h : ∀ m ∈ l, checkM z [m] = 0) : (layL l).length = sizesM l := by
  induction l with
  | nil => rfl
  | cons m r ih =>
    have h1 := (check_one (h m (List.mem_cons_self ..))).2.1
    rw [layL_cons, List.length_append, sizesM_cons, lay1_length, may_size h1, ih fun x hx => h x (List.mem_cons_of_mem _ hx)]
theorem encN_length {z : Int} {n : Nd} (h : checkN z n = 0) : (encN n).length = bytesN n := by
  obtain ⟨_, _, _, h4⟩ := checkN_small h
  rw [encN, List.length_append, encK_length, List.length_append, four_length, lay_sizes h4]
  rfl

/-- The number that stands somewhere; 0, where the bytes end ahead of its end. -/
def numAt (b : Key) (i n : Nat) : Nat := if b.length < i + n then 0 else num ((b.drop i).take n)
def kidsL (b : Key) : Nat → Nat → Nat
  | 0, s => s
  | n + 1, s => kidsL b n (s + 2 + numAt b s 2)
def kidsLong (b : Key) : Nat := kidsL b (numAt b 0 2 - 1) (2 + 4 * numAt b 0 2)
def msgLong (b : Key) : Nat := 13 + numAt b 9 2 + numAt b 11 2
theorem numAt_two (a r : Key) (n : Nat) (h : n < 65536) : numAt (a ++ (two n ++ r)) a.length 2 = n := by
  unfold numAt
  rw [if_neg (by simp [two_length]), List.drop_left' rfl, List.take_left' (two_length _), num_two h]
theorem kidsL_ge (b : Key) (n s : Nat) : s ≤ kidsL b n s := by
  induction n generalizing s with
  | zero => exact Nat.le_refl _
  | succ n ih => unfold kidsL; have := ih (s + 2 + numAt b s 2); omega
theorem kidsL_enc (ks : List Key) (a r : Key) (h : ∀ k ∈ ks, k.length < 65536) : kidsL (a ++ (encKs ks ++ r)) ks.length a.length = a.length + bytesL ks := by
  induction ks generalizing a with
  | nil => simp [kidsL, bytesL]
  | cons k ks ih =>
    rw [List.length_cons]
    unfold kidsL
    have e : a ++ (encKs (k :: ks) ++ r) = a ++ (two k.length ++ (k ++ (encKs ks ++ r))) := by simp [encKs]
    rw [e, numAt_two _ _ _ (h k (List.mem_cons_self ..))]
    have e2 : a ++ (two k.length ++ (k ++ (encKs ks ++ r))) = (a ++ (two k.length ++ k)) ++ (encKs ks ++ r) := by simp
    have e3 : a.length + 2 + k.length = (a ++ (two k.length ++ k)).length := by simp [two_length]; omega
    rw [e2, e3, ih _ fun x hx => h x (List.mem_cons_of_mem _ hx), bytesL_cons]
    simp [two_length]; omega
theorem kidsLong_enc {z : Int} {d : Kd} (h : checkK z d = 0) (r : Key) : kidsLong (encK d ++ r) = (encK d).length := by
  obtain ⟨h1, h2, h3, h4⟩ := check_small h
  have hf := fit_iff.1 (checkK_ok h).2.2.1
  unfold kidsLong
  have e : encK d ++ r = [] ++ (two d.ps.length ++ (encP d.ps ++ (encKs d.ks ++ r))) := by simp [encK]
  have n0 : numAt (encK d ++ r) 0 2 = d.ps.length := by
    have := numAt_two [] (encP d.ps ++ (encKs d.ks ++ r)) d.ps.length (by omega)
    rw [e]; exact this
  rw [n0]
  have e2 : encK d ++ r = (two d.ps.length ++ encP d.ps) ++ (encKs d.ks ++ r) := by simp [encK]
  have e3 : 2 + 4 * d.ps.length = (two d.ps.length ++ encP d.ps).length := by simp [two_length, encP_length]
  have e4 : d.ps.length - 1 = d.ks.length := by omega
  rw [e4, e2, e3, kidsL_enc _ _ _ (fun k hk => by have := h4 k hk; omega), encK_length, List.length_append, two_length, encP_length]
  rfl
theorem msgLong_lay {z : Int} {m : Ms} (h : checkM z [m] = 0) (r : Key) : msgLong (lay1 m ++ r) = (lay1 m).length := by
  obtain ⟨hz, hm, _, _⟩ := check_one h
  obtain ⟨h1, h2⟩ := may_short (by have := sized_le hz; omega) hm
  have e1 : lay1 m ++ r = (eight m.st ++ [UInt8.ofNat m.kd.toNat]) ++ (two m.lo.length ++ (two (tailM m).length ++ (m.lo ++ (tailM m ++ r)))) := by simp [lay1]
  have e2 : lay1 m ++ r = (eight m.st ++ [UInt8.ofNat m.kd.toNat] ++ two m.lo.length) ++ (two (tailM m).length ++ (m.lo ++ (tailM m ++ r))) := by simp [lay1]
  have n1 := numAt_two (eight m.st ++ [UInt8.ofNat m.kd.toNat]) (two (tailM m).length ++ (m.lo ++ (tailM m ++ r))) m.lo.length (by omega)
  have n2 := numAt_two (eight m.st ++ [UInt8.ofNat m.kd.toNat] ++ two m.lo.length) (m.lo ++ (tailM m ++ r)) (tailM m).length (by omega)
  rw [← e1, show (eight m.st ++ [UInt8.ofNat m.kd.toNat]).length = 9 by simp [eight_length]] at n1
  rw [← e2, show (eight m.st ++ [UInt8.ofNat m.kd.toNat] ++ two m.lo.length).length = 11 by simp [eight_length, two_length]] at n2
  unfold msgLong
  rw [n1, n2, lay1_length]
theorem lay_one (m : Ms) : layM [m] = four 1 ++ lay1 m := by simp [layM, layL]
/-- One message, read by itself. -/
theorem dec_one {z : Int} {m : Ms} (h : checkM z [m] = 0) : decB z (four 1 ++ lay1 m) = some [m] := by
  rw [← lay_one]; exact dec_lay h (by simp)
theorem one_dec {z : Int} {t : Key} {l : List Ms} (h : decB z (four 1 ++ t) = some l) : ∃ m, l = [m] ∧ checkM z [m] = 0 ∧ lay1 m = t := by
  obtain ⟨h1, h2, h3⟩ := lay_dec h
  unfold layM at h2
  have h4 := List.append_inj h2 (by simp [four_length])
  have h5 : l.length = 1 := by
    have := congrArg num h4.1
    rw [num_four h3, num_four (by decide)] at this
    exact this
  match l, h5 with
  | [m], _ => exact ⟨m, rfl, h1, by simpa [layL] using h4.2⟩
/-- How far bytes have been read: k messages behind the Kids. -/
structure ReadN (z : Int) (b : Key) (N : Nat) (d : Kd) (l : List Ms) (rest : Key) : Prop where
  kids : checkK z d = 0
  is : b = encK d ++ (four N ++ (layL l ++ rest))
  may : ∀ m ∈ l, checkM z [m] = 0
  lt : N < 4294967296
theorem ReadN.step {z : Int} {b : Key} {N : Nat} {d : Kd} {l : List Ms} {rest : Key} (h : ReadN z b N d l rest) {m : Ms} (hm : checkM z [m] = 0) {r : Key} (hr : rest = lay1 m ++ r) : ReadN z b N d (l ++ [m]) r := by
  refine ⟨h.kids, ?_, fun x hx => ?_, h.lt⟩
  · rw [h.is, hr]
    simp [layL]
  · rcases List.mem_append.1 hx with h' | h'
    · exact h.may x h'
    · simp at h'; rw [h']; exact hm
/-- What is read and is the bytes of a node that may be. -/
theorem ReadN.node {z : Int} {b : Key} {N : Nat} {d : Kd} {l : List Ms} {rest : Key} (h : ReadN z b N d l rest) {n : Nd} (hn : checkN z n = 0) (he : encN n = b) : n.k = d ∧ n.ms.length = N ∧ layL n.ms = layL l ++ rest := by
  obtain ⟨h1, _, _, _⟩ := checkN_ok hn
  obtain ⟨_, _, h6, _⟩ := checkN_small hn
  have e := he.trans h.is
  unfold encN at e
  have r1 := check_enc h1 (four n.ms.length ++ layL n.ms)
  have r2 := check_enc h.kids (four N ++ (layL l ++ rest))
  rw [e, r2] at r1
  simp only [Option.some.injEq, Prod.mk.injEq] at r1
  obtain ⟨e1, e2⟩ := r1
  have e3 := List.append_inj e2 (by simp [four_length])
  refine ⟨e1.symm, ?_, e3.2.symm⟩
  have := congrArg num e3.1
  rw [num_four h.lt, num_four (by omega)] at this
  exact this.symm
theorem ReadN.done {z : Int} {b : Key} {d : Kd} {l : List Ms} (h : ReadN z b l.length d l []) : encN ⟨d, l⟩ = b := by
  rw [h.is]; simp [encN]
theorem layL_inj {z : Int} {a b : List Ms} (ha : ∀ m ∈ a, checkM z [m] = 0) (hb : ∀ m ∈ b, checkM z [m] = 0) (r : Key) (h : layL a = layL b ++ r) (hl : b.length ≤ a.length) : b = a.take b.length ∧ r = layL (a.drop b.length) := by
  induction b generalizing a with
  | nil => simpa [layL] using h.symm
  | cons x b ih =>
    match a, hl with
    | y :: a, hl =>
      have hx := check_one (hb x (List.mem_cons_self ..))
      have hy := check_one (ha y (List.mem_cons_self ..))
      rw [layL_cons, layL_cons, List.append_assoc] at h
      have hz : z.toNat ≤ 4096 := by have := sized_le hx.1; omega
      have r1 := read1_lay (layL a) hz hy.2.1 hy.2.2.2
      have r2 := read1_lay (layL b ++ r) hz hx.2.1 hx.2.2.2
      rw [h, r2] at r1
      simp only [Option.some.injEq, Prod.mk.injEq] at r1
      obtain ⟨e1, e2⟩ := r1
      obtain ⟨e3, e4⟩ := ih (a := a) (fun m hm => ha m (List.mem_cons_of_mem _ hm)) (fun m hm => hb m (List.mem_cons_of_mem _ hm)) e2.symm (by simpa using hl)
      rw [List.length_cons, List.take_succ_cons, List.drop_succ_cons, ← e3, e1]
      exact ⟨rfl, e4⟩
/-- Where there is a message to come it is read; where there is none the bytes end. -/
theorem ReadN.next {z : Int} {b : Key} {N : Nat} {d : Kd} {l : List Ms} {rest : Key} (h : ReadN z b N d l rest) (hl : l.length < N) {n : Nd} (hn : checkN z n = 0) (he : encN n = b) : ∃ m r, rest = lay1 m ++ r ∧ checkM z [m] = 0 := by
  obtain ⟨_, h2, h3⟩ := h.node hn he
  obtain ⟨_, _, _, h4⟩ := checkN_small hn
  obtain ⟨_, e2⟩ := layL_inj h4 h.may rest h3 (by omega)
  match hd : n.ms.drop l.length, (show 0 < (n.ms.drop l.length).length by rw [List.length_drop]; omega) with
  | m :: r, _ =>
    rw [hd, layL_cons] at e2
    exact ⟨m, layL r, e2, h4 m (List.mem_of_mem_drop (i := l.length) (by rw [hd]; exact List.mem_cons_self ..))⟩
theorem ReadN.all {z : Int} {b : Key} {d : Kd} {l : List Ms} {rest : Key} (h : ReadN z b l.length d l rest) {n : Nd} (hn : checkN z n = 0) (he : encN n = b) : rest = [] ∧ n = ⟨d, l⟩ := by
  obtain ⟨h1, h2, h3⟩ := h.node hn he
  obtain ⟨_, _, _, h4⟩ := checkN_small hn
  obtain ⟨e1, e2⟩ := layL_inj h4 h.may rest h3 (by omega)
  rw [← h2, List.take_length] at e1
  rw [← h2, List.drop_length] at e2
  refine ⟨by rw [e2]; rfl, ?_⟩
  obtain ⟨k, ms⟩ := n
  simp only at h1 e1
  rw [h1, e1]
end Go.Proofs.Ytpmcpomomagkhaa
