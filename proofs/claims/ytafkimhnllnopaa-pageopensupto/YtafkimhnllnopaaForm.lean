/- A page's bytes as lists: numbers with the highest byte first, what is written over, the form of a page, and how a page is read. -/
import Derived.Test.YtafkimhnllnopaaPoly
namespace Go.Proofs.Ytafkimhnllnopaa

/-- A number in k bytes, the highest first. -/
def be : Nat → Nat → List UInt8
  | 0, _ => []
  | k + 1, n => UInt8.ofNat (n / 256 ^ k) :: be k n
theorem be_length (k n : Nat) : (be k n).length = k := by
  induction k with
  | zero => rfl
  | succ k ih => simp [be, ih]
/-- What bytes say, the highest first. -/
def bev (bs : List UInt8) : Nat := bs.foldl (fun n c => n * 256 + c.toNat) 0
theorem bev_from (bs : List UInt8) (s : Nat) : bs.foldl (fun n c => n * 256 + c.toNat) s = s * 256 ^ bs.length + bev bs := by
  unfold bev
  induction bs generalizing s with
  | nil => simp
  | cons c r ih =>
    simp only [List.foldl_cons, List.length_cons]
    rw [ih, ih (0 * 256 + c.toNat), Nat.pow_succ, Nat.zero_mul, Nat.zero_add, Nat.add_mul, Nat.mul_assoc, Nat.mul_comm 256, Nat.add_assoc]
theorem bev_cons (c : UInt8) (r : List UInt8) : bev (c :: r) = c.toNat * 256 ^ r.length + bev r := by
  have := bev_from r (0 * 256 + c.toNat)
  simp only [Nat.zero_mul, Nat.zero_add] at this
  rw [← this]
  simp [bev]
theorem bev_lt (bs : List UInt8) : bev bs < 256 ^ bs.length := by
  induction bs with
  | nil => simp [bev]
  | cons c r ih =>
    rw [bev_cons, List.length_cons, Nat.pow_succ]
    have hc := UInt8.toNat_lt c
    have hm : c.toNat * 256 ^ r.length + 256 ^ r.length ≤ 256 * 256 ^ r.length := by
      rw [← Nat.succ_mul]
      exact Nat.mul_le_mul_right _ hc
    rw [Nat.mul_comm (256 ^ r.length)]
    omega
theorem bev_be (k n : Nat) : bev (be k n) = n % 256 ^ k := by
  induction k with
  | zero => simp [be, bev, Nat.mod_one]
  | succ k ih =>
    have e : n % 256 ^ (k + 1) = n % 256 ^ k + 256 ^ k * (n / 256 ^ k % 256) := by rw [Nat.pow_succ, Nat.mod_mul]
    have e2 : (UInt8.ofNat (n / 256 ^ k)).toNat = n / 256 ^ k % 256 := UInt8.toNat_ofNat'
    rw [be, bev_cons, ih, be_length, e2, e, Nat.mul_comm, Nat.add_comm]
theorem be_bev (bs : List UInt8) : be bs.length (bev bs) = bs := by
  have key : ∀ (bs : List UInt8) (m : Nat), be bs.length (m * 256 ^ bs.length + bev bs) = bs := by
    intro bs
    induction bs with
    | nil => intro m; rfl
    | cons c r ih =>
      intro m
      have hp : 0 < 256 ^ r.length := Nat.pow_pos (by decide)
      have e : m * 256 ^ (c :: r).length + bev (c :: r) = (m * 256 + c.toNat) * 256 ^ r.length + bev r := by
        rw [bev_cons, List.length_cons, Nat.pow_succ, Nat.add_mul, Nat.mul_assoc, Nat.mul_comm 256, Nat.add_assoc]
      rw [e, List.length_cons, be, ih]
      congr 1
      rw [Nat.add_comm, Nat.mul_comm, Nat.add_mul_div_left _ _ hp, Nat.div_eq_of_lt (bev_lt r), Nat.zero_add]
      apply UInt8.toNat_inj.1
      rw [UInt8.toNat_ofNat']
      have := UInt8.toNat_lt c
      omega
  have := key bs 0
  simpa using this
theorem be_inj {k m n : Nat} (hm : m < 256 ^ k) (hn : n < 256 ^ k) (h : be k m = be k n) : m = n := by
  have := congrArg bev h
  rw [bev_be, bev_be, Nat.mod_eq_of_lt hm, Nat.mod_eq_of_lt hn] at this
  exact this
theorem bev_inj {a b : List UInt8} (hl : a.length = b.length) (h : bev a = bev b) : a = b := by
  rw [← be_bev a, ← be_bev b, hl, h]

/-- Noughts. -/
def zeros (n : Nat) : List UInt8 := List.replicate n 0
theorem zeros_length (n : Nat) : (zeros n).length = n := by simp [zeros]
theorem zeros_add (m n : Nat) : zeros (m + n) = zeros m ++ zeros n := by simp [zeros, List.replicate_append_replicate]
theorem zeros_of {bs : List UInt8} (h : bs.all (· == 0) = true) : bs = zeros bs.length := by
  rw [zeros, List.eq_replicate_iff]
  refine ⟨rfl, fun b hb => ?_⟩
  have := List.all_eq_true.1 h b hb
  simpa using this
theorem all_zeros (n : Nat) : (zeros n).all (· == 0) = true := by
  simp [zeros]
theorem bev_zeros (n : Nat) : bev (zeros n) = 0 := by
  induction n with
  | zero => rfl
  | succ n ih => rw [zeros, List.replicate_succ, bev_cons]; rw [zeros] at ih; simp [ih]

/-- What is written over a list from a place on. -/
def patch (L : List UInt8) (o : Nat) (bs : List UInt8) : List UInt8 := L.take o ++ bs ++ L.drop (o + bs.length)
theorem patch_length (L : List UInt8) (o : Nat) (bs : List UInt8) (h : o + bs.length ≤ L.length) : (patch L o bs).length = L.length := by
  simp [patch]; omega
theorem patch_nil (L : List UInt8) (o : Nat) : patch L o [] = L := by simp [patch]
theorem patch_cons (L : List UInt8) (o : Nat) (c : UInt8) (bs : List UInt8) (h : o + 1 + bs.length ≤ L.length) : (patch L (o + 1) bs).set o c = patch L o (c :: bs) := by
  unfold patch
  have e1 : L.take (o + 1) = L.take o ++ [L[o]'(by omega)] := by rw [List.take_add_one, List.getElem?_eq_getElem (by omega)]; rfl
  rw [e1, List.append_assoc, List.append_assoc, List.set_append_right _ _ (by simp; omega)]
  have e2 : o - (L.take o).length = 0 := by simp; omega
  rw [e2]
  simp only [List.singleton_append, List.set_cons_zero, List.length_cons]
  rw [show o + (bs.length + 1) = o + 1 + bs.length by omega]
  simp
theorem patch_zeros (A : List UInt8) (m z : Nat) (bs : List UInt8) (o : Nat) (ho : o = A.length + z) (h : z + bs.length ≤ m) : patch (A ++ zeros m) o bs = A ++ (zeros z ++ (bs ++ zeros (m - z - bs.length))) := by
  subst ho
  unfold patch
  have e : zeros m = zeros z ++ (zeros bs.length ++ zeros (m - z - bs.length)) := by
    rw [← zeros_add, ← zeros_add]
    congr 1
    omega
  rw [e]
  have e1 : (A ++ (zeros z ++ (zeros bs.length ++ zeros (m - z - bs.length)))).take (A.length + z) = A ++ zeros z := by
    rw [← List.append_assoc, List.take_left' (by simp [zeros])]
  have e2 : (A ++ (zeros z ++ (zeros bs.length ++ zeros (m - z - bs.length)))).drop (A.length + z + bs.length) = zeros (m - z - bs.length) := by
    rw [← List.append_assoc, ← List.append_assoc, List.drop_left' (by simp [zeros]; omega)]
  rw [e1, e2]
  simp

/-- The four sizes. -/
def sizedB (z : Int) : Bool := z == 512 || z == 1024 || z == 2048 || z == 4096
theorem sized_cases {z : Int} (h : sizedB z = true) : z = 512 ∨ z = 1024 ∨ z = 2048 ∨ z = 4096 := by simpa [sizedB, or_assoc] using h
theorem sized_bounds {z : Int} (h : sizedB z = true) : 512 ≤ z ∧ z ≤ 4096 := by rcases sized_cases h with rfl | rfl | rfl | rfl <;> decide
/-- A head that may be. -/
def mayB (k n : Int) : Bool := decide (1 ≤ k) && decide (k ≤ 5) && decide (0 ≤ n) && decide (n < 65536)
theorem may_bounds {k n : Int} (h : mayB k n = true) : 1 ≤ k ∧ k ≤ 5 ∧ 0 ≤ n ∧ n < 65536 := by simpa [mayB, and_assoc] using h

/-- The bytes ahead of the payload. -/
def front (k n g l : Nat) : List UInt8 := [66, 89] ++ ([UInt8.ofNat k] ++ ([0] ++ (be 4 n ++ (be 8 g ++ (be 4 l ++ zeros 4)))))
theorem front_length (k n g l : Nat) : (front k n g l).length = 24 := by simp [front, be_length, zeros]
/-- All bytes ahead of the sum. -/
def body (size k n g : Nat) (p : List UInt8) : List UInt8 := front k n g p.length ++ (p ++ zeros (size - 32 - p.length))
theorem body_length (size k n g : Nat) (p : List UInt8) (h : p.length + 32 ≤ size) : (body size k n g p).length = size - 8 := by
  simp [body, front_length, zeros]; omega

/-- What a page's bytes say: kind, number, generation, how many bytes of payload; none where they have not a page's form. -/
def kindAt (bs : List UInt8) : Nat := (bs[2]?.getD 0).toNat
def numAt (bs : List UInt8) : Nat := bev ((bs.drop 4).take 4)
def genAt (bs : List UInt8) : Nat := bev ((bs.drop 8).take 8)
def lenAt (bs : List UInt8) : Nat := bev ((bs.drop 16).take 4)
def head1 (bs : List UInt8) : Bool := sizedB bs.length && (bev (bs.take 2) == 16985 && ((bs[3]?.getD 0) == 0 && bev ((bs.drop 20).take 4) == 0))
def head2 (bs : List UInt8) : Bool := mayB (kindAt bs) (numAt bs) && decide (lenAt bs ≤ bs.length - 32)
def head3 (bs : List UInt8) : Bool := ((bs.drop (24 + lenAt bs)).take (bs.length - 8 - (24 + lenAt bs))).all (· == 0)
def formB (bs : List UInt8) : Bool := head1 bs && (head2 bs && head3 bs)
def payOf (bs : List UInt8) : List UInt8 := (bs.drop 24).take (lenAt bs)

theorem be2_mark : be 2 16985 = [66, 89] := by decide

theorem cut_at (bs : List UInt8) (i j : Nat) (h : i ≤ j) : bs.drop i = (bs.drop i).take (j - i) ++ bs.drop j := by
  have := (List.take_append_drop (j - i) (bs.drop i)).symm
  rw [List.drop_drop, show i + (j - i) = j by omega] at this
  exact this

/-- Bytes that have a page's form are, up to their sum, what is written of what they say. -/
theorem form_body {bs : List UInt8} (h : formB bs = true) : bs.take (bs.length - 8) = body bs.length (kindAt bs) (numAt bs) (genAt bs) (payOf bs) ∧ (payOf bs).length = lenAt bs ∧ lenAt bs + 32 ≤ bs.length ∧ sizedB bs.length = true ∧ mayB (kindAt bs) (numAt bs) = true ∧ genAt bs < 18446744073709551616 := by
  simp only [formB, head1, head2, head3, Bool.and_eq_true, decide_eq_true_eq, beq_iff_eq] at h
  obtain ⟨⟨hs, hm, h3, h20⟩, ⟨hmay, hlen⟩, hz⟩ := h
  have hb := sized_bounds hs
  have hpl : (payOf bs).length = lenAt bs := by simp [payOf]; omega
  have hlen' : lenAt bs + 32 ≤ bs.length := by omega
  refine ⟨?_, hpl, hlen', hs, hmay, ?_⟩
  · have t2 : bs.take 2 = [66, 89] := by
      rw [← be2_mark, ← hm]
      have := be_bev (bs.take 2)
      rw [show (bs.take 2).length = 2 by simp; omega] at this
      exact this.symm
    have t4 : (bs.drop 4).take 4 = be 4 (numAt bs) := by
      have := be_bev ((bs.drop 4).take 4)
      rw [show ((bs.drop 4).take 4).length = 4 by simp; omega] at this
      exact this.symm
    have t8 : (bs.drop 8).take 8 = be 8 (genAt bs) := by
      have := be_bev ((bs.drop 8).take 8)
      rw [show ((bs.drop 8).take 8).length = 8 by simp; omega] at this
      exact this.symm
    have t16 : (bs.drop 16).take 4 = be 4 (payOf bs).length := by
      rw [hpl]
      have := be_bev ((bs.drop 16).take 4)
      rw [show ((bs.drop 16).take 4).length = 4 by simp; omega] at this
      exact this.symm
    have t20 : (bs.drop 20).take 4 = zeros 4 := by
      apply bev_inj
      · simp [zeros]; omega
      · rw [h20, bev_zeros]
    have tk : (bs.drop 2).take 1 = [UInt8.ofNat (kindAt bs)] := by
      have h2 : bs[2]? = some (bs[2]'(by omega)) := List.getElem?_eq_getElem (by omega)
      have h1 : (bs.drop 2).take 1 = [bs[2]'(by omega)] := by rw [List.drop_eq_getElem_cons (by omega)]; rfl
      rw [h1]
      simp [kindAt, h2]
    have t3 : (bs.drop 3).take 1 = [0] := by
      have h2 : bs[3]? = some (bs[3]'(by omega)) := List.getElem?_eq_getElem (by omega)
      rw [h2, Option.getD_some] at h3
      have h1 : (bs.drop 3).take 1 = [bs[3]'(by omega)] := by rw [List.drop_eq_getElem_cons (by omega)]; rfl
      rw [h1, h3]
    have tz : (bs.drop (24 + lenAt bs)).take (bs.length - 8 - (24 + lenAt bs)) = zeros (bs.length - 32 - (payOf bs).length) := by
      have := zeros_of hz
      rw [this, hpl]
      congr 1
      simp
      omega
    have tend : bs.take (bs.length - 8) = (bs.take (bs.length - 8)).take 2 ++ (bs.take (bs.length - 8)).drop 2 := (List.take_append_drop _ _).symm
    have c0 : ∀ i j, i ≤ j → j ≤ bs.length - 8 → (bs.take (bs.length - 8)).drop i = (bs.drop i).take (j - i) ++ (bs.take (bs.length - 8)).drop j := by
      intro i j h1 h2
      rw [cut_at (bs.take (bs.length - 8)) i j h1]
      congr 1
      rw [List.drop_take, List.take_take]
      congr 1
      omega
    have clast : (bs.take (bs.length - 8)).drop (bs.length - 8) = [] := by
      rw [List.drop_eq_nil_iff]; simp
    rw [tend, List.take_take, show min 2 (bs.length - 8) = 2 by omega, t2]
    rw [c0 2 3 (by omega) (by omega), c0 3 4 (by omega) (by omega), c0 4 8 (by omega) (by omega), c0 8 16 (by omega) (by omega), c0 16 20 (by omega) (by omega), c0 20 24 (by omega) (by omega),
      c0 24 (24 + lenAt bs) (by omega) (by omega), c0 (24 + lenAt bs) (bs.length - 8) (by omega) (Nat.le_refl _), clast]
    rw [show 3 - 2 = 1 from rfl, show 8 - 4 = 4 from rfl, show 16 - 8 = 8 from rfl, tk, t3, t4, t8, t16, t20, tz]
    rw [show 24 + lenAt bs - 24 = lenAt bs by omega]
    simp [body, front, payOf]
  · have := bev_lt ((bs.drop 8).take 8)
    rw [show ((bs.drop 8).take 8).length = 8 by simp; omega] at this
    exact this

theorem drop_part (a b c : List UInt8) (i m : Nat) (h1 : a.length = i) (h2 : b.length = m) : ((a ++ (b ++ c)).drop i).take m = b := by
  rw [List.drop_left' h1, List.take_left' h2]

/-- What is written of a head and a payload says just them. -/
theorem said_body (size k n g : Nat) (p x : List UInt8) (hs : sizedB size = true) (hm : mayB k n = true) (hg : g < 18446744073709551616) (hp : p.length + 32 ≤ size) (hx : x.length = 8) :
    formB (body size k n g p ++ x) = true ∧ kindAt (body size k n g p ++ x) = k ∧ numAt (body size k n g p ++ x) = n ∧ genAt (body size k n g p ++ x) = g ∧ payOf (body size k n g p ++ x) = p := by
  have hb := sized_bounds hs
  have hk := may_bounds hm
  obtain ⟨z, hz⟩ : ∃ z, z = zeros (size - 32 - p.length) := ⟨_, rfl⟩
  have hzl : z.length = size - 32 - p.length := by rw [hz, zeros_length]
  obtain ⟨L, hL⟩ : ∃ L, L = body size k n g p ++ x := ⟨_, rfl⟩
  have e0 : L = [66, 89] ++ ([UInt8.ofNat k] ++ ([0] ++ (be 4 n ++ (be 8 g ++ (be 4 p.length ++ (zeros 4 ++ (p ++ (z ++ x)))))))) := by
    rw [hL, body, front, hz]; simp
  have hl : L.length = size := by rw [hL, List.length_append, body_length _ _ _ _ _ hp]; omega
  rw [← hL]
  have g0 : L.take 2 = [66, 89] := by rw [e0]; rfl
  have g2 : L[2]? = some (UInt8.ofNat k) := by rw [e0]; rfl
  have g3 : L[3]? = some 0 := by rw [e0]; rfl
  have g4 : (L.drop 4).take 4 = be 4 n := by
    have : L = ([66, 89] ++ [UInt8.ofNat k] ++ [0]) ++ (be 4 n ++ (be 8 g ++ (be 4 p.length ++ (zeros 4 ++ (p ++ (z ++ x)))))) := by rw [e0]; simp
    rw [this]
    exact drop_part _ _ _ _ _ (by simp) (be_length ..)
  have g8 : (L.drop 8).take 8 = be 8 g := by
    have : L = ([66, 89] ++ [UInt8.ofNat k] ++ [0] ++ be 4 n) ++ (be 8 g ++ (be 4 p.length ++ (zeros 4 ++ (p ++ (z ++ x))))) := by rw [e0]; simp
    rw [this]
    exact drop_part _ _ _ _ _ (by simp [be_length]) (be_length ..)
  have g16 : (L.drop 16).take 4 = be 4 p.length := by
    have : L = ([66, 89] ++ [UInt8.ofNat k] ++ [0] ++ be 4 n ++ be 8 g) ++ (be 4 p.length ++ (zeros 4 ++ (p ++ (z ++ x)))) := by rw [e0]; simp
    rw [this]
    exact drop_part _ _ _ _ _ (by simp [be_length]) (be_length ..)
  have g20 : (L.drop 20).take 4 = zeros 4 := by
    have : L = ([66, 89] ++ [UInt8.ofNat k] ++ [0] ++ be 4 n ++ be 8 g ++ be 4 p.length) ++ (zeros 4 ++ (p ++ (z ++ x))) := by rw [e0]; simp
    rw [this]
    exact drop_part _ _ _ _ _ (by simp [be_length]) (zeros_length ..)
  have g24 : (L.drop 24).take p.length = p := by
    have : L = front k n g p.length ++ (p ++ (z ++ x)) := by rw [hL, body, hz]; simp
    rw [this]
    exact drop_part _ _ _ _ _ (front_length ..) rfl
  have hpl : p.length < 4294967296 := by omega
  have v16 : lenAt L = p.length := by unfold lenAt; rw [g16, bev_be, Nat.mod_eq_of_lt hpl]
  have v4 : numAt L = n := by unfold numAt; rw [g4, bev_be, Nat.mod_eq_of_lt (show n < 256 ^ 4 by omega)]
  have v8 : genAt L = g := by unfold genAt; rw [g8, bev_be, Nat.mod_eq_of_lt (show g < 256 ^ 8 by omega)]
  have v2 : kindAt L = k := by unfold kindAt; rw [g2, Option.getD_some, UInt8.toNat_ofNat']; omega
  have gz : (L.drop (24 + p.length)).take (L.length - 8 - (24 + p.length)) = z := by
    have : L = (front k n g p.length ++ p) ++ (z ++ x) := by rw [hL, body, hz]; simp
    rw [hl, this]
    exact drop_part _ _ _ _ _ (by simp [front_length]) (by omega)
  refine ⟨?_, v2, v4, v8, by unfold payOf; rw [v16, g24]⟩
  simp only [formB, head1, head2, head3, Bool.and_eq_true, decide_eq_true_eq, beq_iff_eq]
  refine ⟨⟨by rw [hl]; exact hs, by rw [g0]; decide, by rw [g3]; rfl, by rw [g20, bev_zeros]⟩, ⟨by rw [v2, v4]; exact hm, by rw [v16, hl]; omega⟩, ?_⟩
  rw [v16, gz, hz]
  exact all_zeros _
end Go.Proofs.Ytafkimhnllnopaa
