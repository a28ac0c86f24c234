/- Rows of bytes; the smallest functions of page: Room, mayBe, sumAt, load, noughts, store. -/
import Derived.Test.YtafkimhnllnopaaAppend
import Derived.Test.YtafkimhnllnopaaForm
import Derived.BigQuiet
namespace Go.Proofs.Ytafkimhnllnopaa
open Go.RowKit

/-- A row that is a whole block. -/
def RowIs (w : World) (g : Nat) (L : List UInt8) : Prop := w.heap[g]? = some (.cells (L.map encB).toArray 5 (0, 0))
theorem RowIs.cell {w : World} {g : Nat} {L : List UInt8} (h : RowIs w g L) (j : Nat) : w.cell? ⟨g, j, none⟩ = (L[j]?).map encB := by
  rw [row_cell h j]; simp
theorem RowIs.frozen {w : World} {g : Nat} {L : List UInt8} (h : RowIs w g L) (j : Nat) : w.frozen? ⟨g, j, none⟩ = false := row_frozen h j
theorem RowIs.set {w : World} {g : Nat} {L : List UInt8} (h : RowIs w g L) (j : Nat) (c : UInt8) : RowIs (w.setCell ⟨g, j, none⟩ (.int .u8 (c.toNat : Int))) g (L.set j c) := by
  unfold RowIs
  rw [heap_set_same _ h, List.map_set]
  simp [encB]
theorem RowIs.lt {g : Nat} {w : World} {L : List UInt8} (h : RowIs w g L) : g < w.heap.size := (Array.getElem?_eq_some_iff.1 h).1
theorem RowIs.bytes {w : World} {g : Nat} {L : List UInt8} (h : RowIs w g L) : BytesAt w.heap.size w (some ⟨g, 0, none⟩) L := fun j c hj =>
  ⟨g, 0, rfl, h.lt, by rw [h.cell, Nat.zero_add, hj]; rfl⟩
theorem RowIs.below {B g : Nat} {w w' : World} {L : List UInt8} (h : RowIs w g L) (hb : Below B w w') (hg : g < B) : RowIs w' g L := by
  unfold RowIs
  rw [hb.block g hg]
  exact h
theorem RowIs.here {g : Nat} {w w' : World} {L : List UInt8} (h : RowIs w g L) (hb : Below w.heap.size w w') : RowIs w' g L := h.below hb h.lt
theorem RowIs.drew {g : Nat} {w : World} {L : List UInt8} (h : RowIs w g L) (n : Nat) : RowIs (w.drewN n) g L := h
theorem own_full {w : World} {base g n : Nat} {xs : List Value} (h : w.ownsRow base 5 1 (.slice (some ⟨g, 0, none⟩) n n) n xs) : w.heap[g]? = some (.cells xs.toArray 5 (0, 0)) := by
  obtain ⟨hl, hr⟩ := h
  rcases hr with ⟨e, _⟩ | ⟨g', cap, cur, e, _, hg, _, _, hs, ht⟩
  · cases e
  · cases e
    rw [hg, ← ht, List.take_of_length_le (by simp [hs])]
theorem oneB (bs : List UInt8) : ∀ v ∈ bs.map encB, v.oneCell' = true := fun v hv => by
  obtain ⟨b, _, rfl⟩ := List.mem_map.1 hv
  rfl
theorem BytesAt.part {B : Nat} {w : World} {g off : Nat} {bs : List UInt8} (h : BytesAt B w (some ⟨g, off, none⟩) bs) (i m : Nat) : BytesAt B w (some ⟨g, off + i, none⟩) ((bs.drop i).take m) := fun j c hj => by
  rw [List.getElem?_take] at hj
  split at hj
  · rw [List.getElem?_drop] at hj
    obtain ⟨g', off', e, hl, hc⟩ := h (i + j) c hj
    cases e
    exact ⟨g, off + i, rfl, hl, by rw [Nat.add_assoc]; exact hc⟩
  · cases hj
theorem BytesAt.cellAt {B : Nat} {w : World} {g off : Nat} {bs : List UInt8} (h : BytesAt B w (some ⟨g, off, none⟩) bs) (j : Nat) (c : UInt8) (hj : bs[j]? = some c) : w.cell? ⟨g, off + j, none⟩ = some (.int .u8 (c.toNat : Int)) := by
  obtain ⟨g', off', e, _, hc⟩ := h j c hj
  cases e
  exact hc
theorem below_draws {B : Nat} {a w : World} (h : Below B a w) (n : Nat) : Below B a (w.drewN n) := h.trans ⟨rfl, rfl, rfl, Nat.le_refl _, fun _ _ => rfl⟩

/-- The room of a size. -/
def roomOf (z : Int) : Int := if sizedB z then z - 32 else 0
theorem room_sized {z : Int} (h : sizedB z = true) : roomOf z = z - 32 := by simp [roomOf, h]
theorem room_other {z : Int} (h : sizedB z = false) : roomOf z = 0 := by simp [roomOf, h]
theorem room_any (z : Int) (w : World) : Calls Try.prog 13 #[.int .i64 z] w fun e w' => e = .returned (.int .i64 (roomOf z)) ∧ w' = w := by
  cases h : sizedB z with
  | true =>
    rw [room_sized h]
    rcases sized_cases h with rfl | rfl | rfl | rfl
    all_goals
      clear h
      go_enter Try.func13, Try.ntmps13
      go_wp2
      go_ret
      exact ⟨rfl, rfl⟩
  | false =>
    rw [room_other h]
    simp only [sizedB, Bool.or_eq_false_iff] at h
    obtain ⟨⟨⟨h1, h2⟩, h3⟩, h4⟩ := h
    go_enter Try.func13, Try.ntmps13
    go_wp2
    go_ret
    exact ⟨rfl, rfl⟩

def headV (k n g : Int) : Value := .agg #[.int .i64 k, .int .i64 n, .int .u64 g]

theorem mayBe_any (k n g : Int) (w : World) : Calls Try.prog 22 #[headV k n g] w fun e w' => e = .returned (.bool (mayB k n)) ∧ Below w.heap.size w w' := by
  unfold headV
  have hb : Below w.heap.size w (w.alloc (.cells #[.int .i64 k, .int .i64 n, .int .u64 g] 26)) := (Below.refl _ _).alloc (Nat.le_refl _) _
  have HB : Hid _ := hb
  clear hb
  cases hm : mayB k n with
  | true =>
    obtain ⟨h1, h2, h3, h4⟩ := may_bounds hm
    clear hm
    go_enter Try.func22, Try.ntmps22
    go_wp2
    go_ret
    exact ⟨rfl, HB.out⟩
  | false =>
    have hn : ¬ (1 ≤ k ∧ k ≤ 5 ∧ 0 ≤ n ∧ n < 65536) := fun h => by
      simp [mayB, h] at hm
    clear hm
    by_cases h1 : 1 ≤ k
    · by_cases h2 : k ≤ 5
      · by_cases h3 : 0 ≤ n
        · have h4 : ¬ n < 65536 := fun h => hn ⟨h1, h2, h3, h⟩
          have d4 : decide (n < 65536) = false := decide_eq_false h4
          clear hn
          go_enter Try.func22, Try.ntmps22
          go_wp2
          go_ret
          exact ⟨rfl, HB.out⟩
        · have d3 : decide (0 ≤ n) = false := decide_eq_false h3
          clear hn
          go_enter Try.func22, Try.ntmps22
          go_wp2
          go_ret
          exact ⟨rfl, HB.out⟩
      · have d2 : decide (k ≤ 5) = false := decide_eq_false h2
        clear hn
        go_enter Try.func22, Try.ntmps22
        go_wp2
        go_ret
        exact ⟨rfl, HB.out⟩
    · have d1 : decide (1 ≤ k) = false := decide_eq_false h1
      clear hn
      go_enter Try.func22, Try.ntmps22
      go_wp2
      go_ret
      exact ⟨rfl, HB.out⟩

theorem sumAt_any (a : Option Addr) (n cap : Nat) (w : World) (hn : n ≤ 140737488355328) : Calls Try.prog 24 #[.slice a n cap] w fun e w' => e = .returned (.int .i64 ((n : Int) - 8)) ∧ w' = w := by
  go_enter Try.func24, Try.ntmps24
  go_wp2
  go_ret
  exact ⟨rfl, rfl⟩

theorem bev_take (bs : List UInt8) (k : Nat) (c : UInt8) (h : bs[k]? = some c) : bev (bs.take (k + 1)) = bev (bs.take k) * 256 + c.toNat := by
  rw [List.take_add_one, h]
  simp [bev, List.foldl_append]
theorem load_next (m : Nat) (c : UInt8) (h : m < 72057594037927936) : bits .or .u64 (IntKind.u64.wrap ((m : Int) * 256)) (IntKind.u64.wrap (c.toNat : Int)) = ((m * 256 + c.toNat : Nat) : Int) := by
  have hc := UInt8.toNat_lt c
  have e2 : IntKind.u64.wrap (c.toNat : Int) = (c.toNat : Int) := by rw [wrap64u]; omega
  rw [e2]
  have e : IntKind.u64.wrap ((m : Int) * 256) = ((m * 256 : Nat) : Int) := by rw [wrap64u]; omega
  rw [e, u64_or_nat _ _ (by omega) (by omega)]
  have := Nat.shiftLeft_add_eq_or_of_lt (show c.toNat < 2 ^ 8 from hc) m
  rw [Nat.shiftLeft_eq] at this
  rw [show m * 256 = m * 2 ^ 8 from rfl, ← this]

set_option maxRecDepth 100000 in
theorem load_any (w : World) (a : Option Addr) (n cap : Nat) (bs : List UInt8) (hb : BytesAt w.heap.size w a bs) (hn : bs.length = n) (hlen : n ≤ 8) :
    Calls Try.prog 32 #[.slice a n cap] w fun e w' => e = .returned (.int .u64 (bev bs : Int)) ∧ w' = w := by
  subst hn
  have HB : Hid (BytesAt w.heap.size w a bs) := hb
  clear hb
  go_enter Try.func32, Try.ntmps32
  go_wp2
  go_loopw [8, 3] (fun i t wx => ∃ k : Nat, k ≤ bs.length ∧ i = .int .i64 k ∧ t = .int .u64 (bev (bs.take k) : Int) ∧ wx = w) (fun i _ _ => bs.length - (intOf i).toNat)
  case atStart => exact ⟨0, by omega, rfl, rfl, rfl⟩
  case round =>
    obtain ⟨k, hk, rfl, rfl, rfl⟩ := hrel
    by_cases hlt : k < bs.length
    · have hkz : (k : Int) < (bs.length : Int) := by omega
      obtain ⟨c, hc⟩ : ∃ c, bs[k]? = some c := ⟨bs[k], List.getElem?_eq_getElem hlt⟩
      obtain ⟨g, off, rfl, hg, hcell⟩ := HB.out k c hc
      have HN : Hid (bev (bs.take (k + 1)) = bev (bs.take k) * 256 + c.toNat) := bev_take bs k c hc
      have hm : bev (bs.take k) < 72057594037927936 := by
        have h1 := bev_lt (bs.take k)
        have h2 : (bs.take k).length ≤ 7 := by simp; omega
        have h3 : 256 ^ (bs.take k).length ≤ 256 ^ 7 := Nat.pow_le_pow_right (by decide) h2
        omega
      have HX : Hid _ := load_next _ c hm
      clear hc hm
      obtain ⟨m, hmm⟩ : ∃ m, m = bev (bs.take k) := ⟨_, rfl⟩
      rw [← hmm] at HN HX ⊢
      clear hmm
      go_wp2
      refine ⟨⟨k + 1, by omega, by go_num, ?_, trivial⟩, by simp [intOf]; omega⟩
      rw [HN.out]
      exact congrArg (Value.int .u64) HX.out
    · go_wp2
      go_ret
      obtain rfl : k = bs.length := by omega
      rw [List.take_length]
      exact ⟨rfl, rfl⟩

set_option maxRecDepth 100000 in
theorem noughts_any (w : World) (a : Option Addr) (n cap : Nat) (bs : List UInt8) (hb : BytesAt w.heap.size w a bs) (hn : bs.length = n) (hlen : n ≤ 140737488355328) :
    Calls Try.prog 39 #[.slice a n cap] w fun e w' => e = .returned (.bool (bs.all (· == 0))) ∧ w' = w := by
  subst hn
  have HB : Hid (BytesAt w.heap.size w a bs) := hb
  clear hb
  go_enter Try.func39, Try.ntmps39
  go_wp2
  go_loopw [7] (fun i wx => ∃ k : Nat, k ≤ bs.length ∧ i = .int .i64 k ∧ (bs.take k).all (· == 0) = true ∧ wx = w) (fun i _ => bs.length - (intOf i).toNat)
  case atStart => exact ⟨0, by omega, rfl, rfl, rfl⟩
  case round =>
    obtain ⟨k, hk, rfl, hz, rfl⟩ := hrel
    have HZ : Hid _ := hz
    clear hz
    by_cases hlt : k < bs.length
    · have hkz : (k : Int) < (bs.length : Int) := by omega
      obtain ⟨c, hc⟩ : ∃ c, bs[k]? = some c := ⟨bs[k], List.getElem?_eq_getElem hlt⟩
      obtain ⟨g, off, rfl, hg, hcell⟩ := HB.out k c hc
      have HC : Hid _ := hc
      clear hc
      by_cases h0 : c = 0
      · subst h0
        have hcell' : wr.cell? ⟨g, off + k, none⟩ = some (.int .u8 0) := hcell
        clear hcell
        go_wp2
        refine ⟨⟨k + 1, by omega, by go_num, ?_, trivial⟩, by simp [intOf]; omega⟩
        rw [List.take_add_one, HC.out, List.all_append, HZ.out]
        rfl
      · have hcz : ((c.toNat : Int) == 0) = false := by
          rw [beq_eq_false_iff_ne]
          intro e
          exact h0 (UInt8.toNat_inj.1 (by have : c.toNat = 0 := by omega
                                          exact this))
        have HE : Hid (bs.all (· == 0) = false) := by
          show _ = _
          rw [List.all_eq_false]
          exact ⟨c, List.mem_of_getElem? HC.out, by simpa using h0⟩
        go_wp2
        go_ret
        rw [HE.out]
        exact ⟨rfl, rfl⟩
    · obtain rfl : k = bs.length := by omega
      go_wp2
      go_ret
      have := HZ.out
      rw [List.take_length] at this
      rw [this]
      exact ⟨rfl, rfl⟩

theorem store_byte (n i : Nat) : (n : Int) / 2 ^ (8 * i) % 256 = ((UInt8.ofNat (n / 256 ^ i)).toNat : Int) := by
  have e : (n : Int) / 2 ^ (8 * i) = ((n / 256 ^ i : Nat) : Int) := by
    rw [show (256 : Nat) = 2 ^ 8 from rfl, ← Nat.pow_mul]
    simp
  have e2 : (UInt8.ofNat (n / 256 ^ i)).toNat = n / 256 ^ i % 256 := UInt8.toNat_ofNat'
  rw [e, e2]
  omega

set_option maxHeartbeats 800000 in
set_option maxRecDepth 100000 in
theorem store_any (B : Nat) (w0 w : World) (g off k cap n : Nat) (L : List UInt8) (hr : RowIs w g L) (h0 : Below B w0 w) (hB : B ≤ g) (hk : off + k ≤ L.length) (hk8 : k ≤ 8) :
    Calls Try.prog 23 #[.slice (some ⟨g, off, none⟩) k cap, .int .u64 (n : Int)] w fun e w' => e = .returned (.tuple #[]) ∧ RowIs w' g (patch L off (be k n)) ∧ Below B w0 w' := by
  have HR : Hid (RowIs w g L) := hr
  have H0 : Hid (Below B w0 w) := h0
  clear hr h0
  go_enter Try.func23, Try.ntmps23
  go_wp2
  go_loopw [7] (fun i wr => ∃ j : Nat, j ≤ k ∧ i = .int .i64 j ∧ RowIs wr g (patch L (off + (k - j)) (be j n)) ∧ Below B w0 wr) (fun i _ => k - (intOf i).toNat)
  case atStart => exact ⟨0, by omega, rfl, by rw [be, patch_nil]; exact HR.out, H0.out⟩
  case round =>
    obtain ⟨j, hj, rfl, hrow, hbe⟩ := hrel
    have HRW : Hid _ := hrow
    have HBE : Hid _ := hbe
    by_cases hlt : j < k
    · have hjz : (j : Int) < (k : Int) := by omega
      obtain ⟨q, hq⟩ : ∃ q : Nat, (k : Int) - 1 - (j : Int) = (q : Int) := ⟨k - 1 - j, by omega⟩
      have hqk : (q : Int) < (k : Int) := by omega
      have HQ : Hid (off + (k - j) = off + q + 1 ∧ off + (k - (j + 1)) = off + q) := ⟨by omega, by omega⟩
      have hlen : (patch L (off + (k - j)) (be j n)).length = L.length := patch_length _ _ _ (by rw [be_length]; omega)
      obtain ⟨c, hc⟩ : ∃ c, (patch L (off + (k - j)) (be j n))[off + q]? = some c := ⟨_, List.getElem?_eq_getElem (by rw [hlen]; omega)⟩
      have hcell := hrow.cell (off + q)
      have hfz := hrow.frozen (off + q)
      rw [hc] at hcell
      have HS : Hid _ := store_byte n j
      clear hrow hbe hc hlen
      go_wp2
      have hset := RowIs.set HRW.out (off + q) (UInt8.ofNat (n / 256 ^ j))
      have hq2 := HQ.out
      rw [hq2.1, patch_cons _ _ _ _ (by rw [be_length]; omega)] at hset
      refine ⟨⟨j + 1, by omega, by go_num, ?_, HBE.out.setCell hB _⟩, by simp [intOf]; omega⟩
      rw [HS.out, hq2.2]
      exact hset
    · obtain rfl : j = k := by omega
      clear hrow hbe
      go_wp2
      go_end0
      have := HRW.out
      rw [Nat.sub_self, Nat.add_zero] at this
      exact ⟨rfl, this, HBE.out⟩
end Go.Proofs.Ytafkimhnllnopaa
