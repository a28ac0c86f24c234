/- Keys and ranges in memory; what the calls of order leave alone. -/
import Derived.Test.YtgifnaahahfhbaaKeys
import Derived.WalkKit
import Derived.OwnWalk
import Derived.BigQuiet
import Derived.Deep.LoopGhost
import Derived.WalkMore
import Derived.Deep.WholeRow
import Derived.Deep.MidRow
import Derived.Lib.SlBytesConst
import Derived.Laws.AppendOwnNone
import Derived.Laws.BytesArg
import Derived.Deep.RegionHeldLaw
namespace Go.Proofs.Ytgifnaahahfhbaa
open Go.RowKit

theorem row_cell {w : World} {b : Nat} {cur : Array Value} {t : TypeId} (h : w.heap[b]? = some (.cells cur t (0, 0))) (i : Nat) : w.cell? ⟨b, i, none⟩ = cur[i]? := by
  simp [World.cell?, h]
theorem row_frozen {w : World} {b : Nat} {cur : Array Value} {t : TypeId} (h : w.heap[b]? = some (.cells cur t (0, 0))) (i : Nat) : w.frozen? ⟨b, i, none⟩ = false := by
  simp [World.frozen?, h]
theorem heap_set_same {w : World} {b i : Nat} {cur : Array Value} {t : TypeId} (v : Value) (h : w.heap[b]? = some (.cells cur t (0, 0))) : (w.setCell ⟨b, i, none⟩ v).heap[b]? = some (.cells (cur.setIfInBounds i v) t (0, 0)) := heap_setCell_same w b i cur t v h
theorem heap_set_other {w : World} {b i k : Nat} (v : Value) (h : k ≠ b) : (w.setCell ⟨b, i, none⟩ v).heap[k]? = w.heap[k]? := Below.heap_setCell w _ v k h
theorem add_at (g off j : Nat) : (⟨g, off, none⟩ : Addr).add j = ⟨g, off + j, none⟩ := by unfold Addr.add; split <;> simp_all
theorem ret_int {k : IntKind} {a b : Int} (h : a = b) : Ending.returned (.int k a) = .returned (.int k b) := by rw [h]
theorem ret_bool {a b : Bool} (h : a = b) : Ending.returned (.bool a) = .returned (.bool b) := by rw [h]
theorem below_draws {B : Nat} {a w : World} (h : Below B a w) (n : Nat) : Below B a (w.drewN n) := h.trans ⟨rfl, rfl, rfl, Nat.le_refl _, fun _ _ => rfl⟩

/-- The bytes lie there, in blocks below B. -/
def BytesAt (B : Nat) (w : World) (a : Option Addr) (bs : List UInt8) : Prop :=
  ∀ (j : Nat) c, bs[j]? = some c → ∃ g off, a = some ⟨g, off, none⟩ ∧ g < B ∧ w.cell? ⟨g, off + j, none⟩ = some (.int .u8 (c.toNat : Int))
theorem BytesAt.below {B : Nat} {w w' : World} {a : Option Addr} {bs : List UInt8} (h : BytesAt B w a bs) (hb : Below B w w') : BytesAt B w' a bs := fun j c hj => by
  obtain ⟨g, off, h1, h2, h3⟩ := h j c hj
  exact ⟨g, off, h1, h2, by rw [hb.cell h2]; exact h3⟩
theorem BytesAt.take {B : Nat} {w : World} {a : Option Addr} {bs : List UInt8} (h : BytesAt B w a bs) (n : Nat) : BytesAt B w a (bs.take n) := fun j c hj => by
  rw [List.getElem?_take] at hj
  split at hj
  · exact h j c hj
  · cases hj
theorem BytesAt.mono {B B' : Nat} {w : World} {a : Option Addr} {bs : List UInt8} (h : BytesAt B w a bs) (hB : B ≤ B') : BytesAt B' w a bs := fun j c hj => by
  obtain ⟨g, off, h1, h2, h3⟩ := h j c hj
  exact ⟨g, off, h1, by omega, h3⟩
theorem BytesAt.here {w w' : World} {a : Option Addr} {bs : List UInt8} (h : BytesAt w.heap.size w a bs) (hb : Below w.heap.size w w') : BytesAt w'.heap.size w' a bs := (h.below hb).mono hb.size
def encB (c : UInt8) : Value := .int .u8 (c.toNat : Int)
theorem bytes_row {w : World} {base : Nat} {a : Option Addr} {n cap : Nat} {bs : List UInt8} (h : w.ownsRow base 5 1 (.slice a n cap) n (bs.map encB)) : BytesAt w.heap.size w a bs := fun j c hj => by
  obtain ⟨hl, hr⟩ := h
  have hj' := (List.getElem?_eq_some_iff.1 hj).1
  rcases hr with ⟨_, h0⟩ | ⟨g, cap', cur, hv, _, hg, _, _, _, ht⟩
  · simp at hl; omega
  · cases hv
    refine ⟨g, 0, rfl, (Array.getElem?_eq_some_iff.1 hg).1, ?_⟩
    rw [row_cell hg]
    have : (cur.toList.take (n * 1))[0 + j]? = some (encB c) := by rw [ht, Nat.zero_add, List.getElem?_map, hj]; rfl
    rw [List.getElem?_take] at this
    split at this
    · rw [← Array.getElem?_toList]; exact this
    · cases this

/-- A key's value: a slice, its bytes there. -/
structure KeyAt (w : World) (v : Value) (ks : Key) : Prop where
  is : ∃ a c, v = .slice a ks.length c ∧ BytesAt w.heap.size w a ks ∧ ks.length ≤ c ∧ (a = none → c = 0)
  short : ks.length ≤ 140737488355328
theorem KeyAt.here {w w' : World} {v : Value} {ks : Key} (h : KeyAt w v ks) (hb : Below w.heap.size w w') : KeyAt w' v ks := by
  obtain ⟨⟨a, c, rfl, h1, h2⟩, h3⟩ := h
  exact ⟨⟨a, c, rfl, h1.here hb, h2⟩, h3⟩
theorem KeyAt.draws {w : World} {v : Value} {ks : Key} (h : KeyAt w v ks) (n : Nat) : KeyAt (w.drewN n) v ks := h.here (below_draws (Below.refl _ _) n)
theorem KeyAt.nil (w : World) : KeyAt w (.slice none 0 0) [] := ⟨⟨none, 0, rfl, fun j c hj => by simp at hj, Nat.le_refl _, fun _ => rfl⟩, by decide⟩
/-- A key of new memory. -/
structure NewKey (base : Nat) (w : World) (v : Value) (ks : Key) : Prop where
  own : w.ownsRow base 5 1 v ks.length (ks.map encB)
  short : ks.length ≤ 140737488355328
theorem NewKey.at {base : Nat} {w : World} {v : Value} {ks : Key} (h : NewKey base w v ks) : KeyAt w v ks := by
  obtain ⟨ho, hs⟩ := h
  refine ⟨?_, hs⟩
  obtain ⟨_, h2⟩ := id ho
  rcases h2 with ⟨rfl, h0⟩ | ⟨g, cap, cur, rfl, hb, hg, hc, _⟩
  · refine ⟨none, 0, by rw [h0], ?_, by omega, fun _ => rfl⟩
    exact bytes_row (n := ks.length) (cap := 0) (by rw [h0] at ho ⊢; exact ho)
  · exact ⟨_, cap, rfl, bytes_row ho, hc, fun h => by cases h⟩
theorem own_same {w w' : World} {base e n k : Nat} {v : Value} {xs : List Value} (ho : w.ownsRow base e k v n xs) (h : ∀ b, v.ownBlock = some b → b < w.heap.size → w'.heap[b]? = w.heap[b]?) : w'.ownsRow base e k v n xs := by
  obtain ⟨h1, h2⟩ := ho
  refine ⟨h1, ?_⟩
  rcases h2 with h2 | ⟨g, cap, cur, rfl, hb, hg, hc⟩
  · exact .inl h2
  · exact .inr ⟨g, cap, cur, rfl, hb, by rw [h g rfl (Array.getElem?_eq_some_iff.1 hg).1]; exact hg, hc⟩
theorem own_mono {w : World} {base base' e n k : Nat} {v : Value} {xs : List Value} (ho : w.ownsRow base e k v n xs) (h : base' ≤ base) : w.ownsRow base' e k v n xs := by
  obtain ⟨h1, h2⟩ := ho
  refine ⟨h1, ?_⟩
  rcases h2 with h2 | ⟨g, cap, cur, rfl, hb, hg⟩
  · exact .inl h2
  · exact .inr ⟨g, cap, cur, rfl, by omega, hg⟩
theorem own_type {w : World} {base e n s : Nat} {v : Value} {xs : List Value} (ho : w.ownsRow base e s v n xs) (k : Nat) (hk : v.ownBlock = some k) : k < w.heap.size ∧ base ≤ k ∧ ∃ cur, w.heap[k]? = some (.cells cur e (0, 0)) := by
  obtain ⟨_, h2⟩ := ho
  rcases h2 with ⟨rfl, _⟩ | ⟨g, cap, cur, rfl, hb, hg, _⟩
  · cases hk
  · cases hk
    exact ⟨(Array.getElem?_eq_some_iff.1 hg).1, hb, cur, hg⟩
theorem NewKey.here {base : Nat} {w w' : World} {v : Value} {ks : Key} (h : NewKey base w v ks) (hb : Below w.heap.size w w') : NewKey base w' v ks :=
  ⟨own_same h.1 fun b _ hl => hb.block b hl, h.2⟩
theorem NewKey.mono {base base' : Nat} {w : World} {v : Value} {ks : Key} (h : NewKey base w v ks) (hb : base' ≤ base) : NewKey base' w v ks := ⟨own_mono h.1 hb, h.2⟩
theorem NewKey.nil (base : Nat) (w : World) : NewKey base w (.slice none 0 0) [] := ⟨World.ownsRow_nil _ _ _ _, by decide⟩

/-- A range's value. -/
structure RangeAt (w : World) (v : Value) (r : Rg) : Prop where
  is : ∃ v1 v2, v = .agg #[v1, v2, .bool r.all] ∧ KeyAt w v1 r.lo ∧ KeyAt w v2 r.hi
theorem RangeAt.here {w w' : World} {v : Value} {r : Rg} (h : RangeAt w v r) (hb : Below w.heap.size w w') : RangeAt w' v r := by
  obtain ⟨v1, v2, rfl, h1, h2⟩ := h.is
  exact ⟨v1, v2, rfl, h1.here hb, h2.here hb⟩
/-- A range of new memory: its two keys lie in blocks of their own. -/
structure NewRange (base : Nat) (w : World) (v : Value) (r : Rg) : Prop where
  is : ∃ v1 v2, v = .agg #[v1, v2, .bool r.all] ∧ NewKey base w v1 r.lo ∧ NewKey base w v2 r.hi ∧ ∀ k, v1.ownBlock = some k → v2.ownBlock ≠ some k
theorem NewRange.at {base : Nat} {w : World} {v : Value} {r : Rg} (h : NewRange base w v r) : RangeAt w v r := by
  obtain ⟨v1, v2, rfl, h1, h2, _⟩ := h.is
  exact ⟨v1, v2, rfl, h1.at, h2.at⟩
theorem NewRange.here {base : Nat} {w w' : World} {v : Value} {r : Rg} (h : NewRange base w v r) (hb : Below w.heap.size w w') : NewRange base w' v r := by
  obtain ⟨v1, v2, rfl, h1, h2, h3⟩ := h.is
  exact ⟨v1, v2, rfl, h1.here hb, h2.here hb, h3⟩
theorem NewRange.zero (base : Nat) (w : World) : NewRange base w (.agg #[.slice none 0 0, .slice none 0 0, .bool false]) Rg.zero :=
  ⟨_, _, rfl, NewKey.nil _ _, NewKey.nil _ _, fun k hk => by cases hk⟩

theorem info5 : (Try.prog.info? 5).map (fun i => (i.zero, i.size, i.bytes)) = some (some (.int .u8 0), 1, 1) := by kernel_rfl
theorem info5' : ∃ i, Try.prog.info? 5 = some i ∧ i.zero = some (.int .u8 0) ∧ i.size = 1 ∧ i.bytes = 1 := by
  have h := info5
  cases hi : Try.prog.info? 5 with
  | none => rw [hi] at h; simp at h
  | some i => rw [hi] at h; simp at h; exact ⟨i, rfl, h⟩

theorem byte_ne {x y : UInt8} (h : x ≠ y) : ((x.toNat : Int) == (y.toNat : Int)) = false := by
  rw [beq_eq_false_iff_ne]
  intro e
  exact h (UInt8.toNat_inj.1 (by omega))

theorem take_same {x y : Key} {k : Nat} {c : UInt8} (h : x.take k = y.take k) (hx : x[k]? = some c) (hy : y[k]? = some c) : x.take (k + 1) = y.take (k + 1) := by
  rw [List.take_add_one, List.take_add_one, h, hx, hy]
theorem com_here {x y : Key} {k : Nat} {c d : UInt8} (h : x.take k = y.take k) (hx : x[k]? = some c) (hy : y[k]? = some d) (hne : c ≠ d) : comK x y = k := by
  obtain ⟨h1, rfl⟩ := List.getElem?_eq_some_iff.1 hx
  obtain ⟨h2, rfl⟩ := List.getElem?_eq_some_iff.1 hy
  exact comK_is x y k (by omega) (by omega) h (fun _ _ => hne)
theorem com_end {x y : Key} {k : Nat} (h : x.take k = y.take k) (hx : k ≤ x.length) (hy : k ≤ y.length) (he : k = x.length ∨ k = y.length) : comK x y = k :=
  comK_is x y k hx hy h (fun _ _ => by omega)

set_option maxHeartbeats 800000 in
set_option maxRecDepth 100000 in
theorem common_any (w : World) (a b : Option Addr) (ca cb : Nat) (x y : Key) (hx : BytesAt w.heap.size w a x) (hy : BytesAt w.heap.size w b y) (lx : x.length ≤ 140737488355328) (ly : y.length ≤ 140737488355328) :
    Calls Try.prog 68 #[.slice a x.length ca, .slice b y.length cb] w fun e w' => e = .returned (.int .i64 (comK x y : Int)) ∧ ∃ q, w' = w.drewN q := by
  have HX : Hid (BytesAt w.heap.size w a x) := hx
  have HY : Hid (BytesAt w.heap.size w b y) := hy
  clear hx hy
  by_cases hyx : y.length < x.length
  all_goals
    go_enter Try.func68, Try.ntmps68
    go_wp2
    go_loopw [13] (fun i wx => ∃ k : Nat, k ≤ x.length ∧ k ≤ y.length ∧ i = .int .i64 k ∧ x.take k = y.take k ∧ ∃ q, wx = w.drewN q) (fun i _ => x.length - (intOf i).toNat)
    case atStart => exact ⟨0, by omega, by omega, rfl, by simp, 0, rfl⟩
    case round =>
      obtain ⟨k, hkx, hky, rfl, ht, q, rfl⟩ := hrel
      have HT : Hid (x.take k = y.take k) := ht
      clear ht
      by_cases hlt : k < x.length ∧ k < y.length
      · obtain ⟨h1, h2⟩ := hlt
        have h1z : (k : Int) < (x.length : Int) := by omega
        have h2z : (k : Int) < (y.length : Int) := by omega
        obtain ⟨c, hc⟩ : ∃ c, x[k]? = some c := ⟨x[k]'(by omega), List.getElem?_eq_getElem (by omega)⟩
        obtain ⟨d, hd⟩ : ∃ d, y[k]? = some d := ⟨y[k]'(by omega), List.getElem?_eq_getElem (by omega)⟩
        obtain ⟨g, off, rfl, hg, hcell⟩ := HX.out k c hc
        obtain ⟨g', off', rfl, hg', hcell'⟩ := HY.out k d hd
        have HC : Hid (x[k]? = some c) := hc
        have HD : Hid (y[k]? = some d) := hd
        clear hc hd
        by_cases e : c = d
        · subst e
          go_wp2
          go_region
          all_goals
            go_wp2
            exact ⟨⟨k + 1, by omega, by omega, by go_num, take_same HT.out HC.out HD.out, q + 1, rfl⟩, by simp [intOf]; omega⟩
        · have hne := byte_ne e
          have HE : Hid (comK x y = k) := com_here HT.out HC.out HD.out e
          go_wp2
          go_region
          all_goals
            go_wp2
            go_ret
            exact ⟨by rw [HE.out]; rfl, q + 1, rfl⟩
      · have h3z : ¬ (k : Int) < (x.length : Int) ∨ ¬ (k : Int) < (y.length : Int) := by omega
        have HE : Hid (comK x y = k) := com_end HT.out hkx hky (by omega)
        obtain ⟨m, rfl⟩ : ∃ m, m = k := ⟨_, rfl⟩
        go_wp2
        go_ret
        exact ⟨by rw [HE.out]; exact ret_int (by omega), q, rfl⟩

theorem draws_add (w : World) (p q : Nat) : (w.drewN p).drewN q = w.drewN (p + q) := by
  simp [World.drewN, Nat.add_assoc]
set_option maxHeartbeats 800000 in
set_option maxRecDepth 100000 in
theorem compare_any (w : World) (a b : Option Addr) (ca cb : Nat) (x y : Key) (hx : BytesAt w.heap.size w a x) (hy : BytesAt w.heap.size w b y) (lx : x.length ≤ 140737488355328) (ly : y.length ≤ 140737488355328) :
    Calls Try.prog 66 #[.slice a x.length ca, .slice b y.length cb] w fun e w' => e = .returned (.int .i64 (cmpK x y)) ∧ ∃ q, w' = w.drewN q := by
  have HX : Hid (BytesAt w.heap.size w a x) := hx
  have HY : Hid (BytesAt w.heap.size w b y) := hy
  clear hx hy
  have hkx := comK_left x y
  have hky := comK_right x y
  have HCO := common_any w a b ca cb x y HX.out HY.out lx ly
  have HL : Hid (x < y ↔ (comK x y = x.length ∧ comK x y < y.length) ∨ ∃ (h1 : comK x y < x.length) (h2 : comK x y < y.length), x[comK x y] < y[comK x y]) := lt_iff_com x y
  have HQ : Hid (x = y ↔ comK x y = x.length ∧ comK x y = y.length) := eq_iff_com x y
  have HP : Hid (∀ (h1 : comK x y < x.length) (h2 : comK x y < y.length), x[comK x y] ≠ y[comK x y]) := comK_part x y
  obtain ⟨k, hk⟩ : ∃ k, k = comK x y := ⟨_, rfl⟩
  rw [← hk] at HCO HL HQ hkx hky
  rw [← hk] at HP
  clear hk
  by_cases hx : k = x.length
  · by_cases hy : k = y.length
    · have HR : Hid (cmpK x y = 0) := by rw [Hid, cmpK_eq]; exact HQ.out.2 ⟨hx, hy⟩
      go_enter Try.func66, Try.ntmps66
      go_wp2_with (go_at_call 68; refine HCO.mono ?_; rintro e w' ⟨rfl, q, rfl⟩)
      go_ret
      exact ⟨by rw [HR.out]; rfl, q, rfl⟩
    · have HR : Hid (cmpK x y = -1) := by rw [Hid, cmpK_lt_one]; exact HL.out.2 (.inl ⟨hx, by omega⟩)
      have hyz : ((k : Int) == (y.length : Int)) = false := by rw [beq_eq_false_iff_ne]; omega
      subst hx
      go_enter Try.func66, Try.ntmps66
      go_wp2_with (go_at_call 68; refine HCO.mono ?_; rintro e w' ⟨rfl, q, rfl⟩)
      go_ret
      exact ⟨by rw [HR.out]; rfl, q, rfl⟩
  · have hxz : ((k : Int) == (x.length : Int)) = false := by rw [beq_eq_false_iff_ne]; omega
    have hxl : (k : Int) < (x.length : Int) := by omega
    by_cases hy : k < y.length
    · have hyl : (k : Int) < (y.length : Int) := by omega
      obtain ⟨c, hc⟩ : ∃ c, x[k]? = some c := ⟨x[k]'(by omega), List.getElem?_eq_getElem (by omega)⟩
      obtain ⟨d, hd⟩ : ∃ d, y[k]? = some d := ⟨y[k]'(by omega), List.getElem?_eq_getElem (by omega)⟩
      obtain ⟨h1, hce⟩ := List.getElem?_eq_some_iff.1 hc
      obtain ⟨h2, hde⟩ := List.getElem?_eq_some_iff.1 hd
      have hcd : c ≠ d := by rw [← hce, ← hde]; exact HP.out h1 h2
      have HC : Hid _ := hce
      have HD : Hid _ := hde
      obtain ⟨g, off, rfl, hg, hcell⟩ := HX.out k c hc
      obtain ⟨g', off', rfl, hg', hcell'⟩ := HY.out k d hd
      clear hc hd hce hde
      by_cases hlt : c < d
      · have HR : Hid (cmpK x y = -1) := by rw [Hid, cmpK_lt_one]; exact HL.out.2 (.inr ⟨h1, h2, by rw [HC.out, HD.out]; exact hlt⟩)
        have hz : (c.toNat : Int) < (d.toNat : Int) := by have := UInt8.lt_iff_toNat_lt.1 hlt; omega
        go_enter Try.func66, Try.ntmps66
        go_wp2_with (go_at_call 68; refine HCO.mono ?_; rintro e w' ⟨rfl, q, rfl⟩)
        go_region
        all_goals
          go_wp2
          go_ret
          exact ⟨by rw [HR.out]; rfl, q + 1, rfl⟩
      · have hgt : d < c := by grind
        have HR : Hid (cmpK x y = 1) := by
          have h3 : ¬ x < y := by
            rw [HL.out]
            rintro (⟨h, _⟩ | ⟨_, _, h⟩)
            · exact hx h
            · rw [HC.out, HD.out] at h; exact hlt h
          have h4 : ¬ x = y := fun h => hx (HQ.out.1 h).1
          unfold Hid cmpK
          grind
        have hz : ¬ (c.toNat : Int) < (d.toNat : Int) := by have := UInt8.lt_iff_toNat_lt.1 hgt; omega
        go_enter Try.func66, Try.ntmps66
        go_wp2_with (go_at_call 68; refine HCO.mono ?_; rintro e w' ⟨rfl, q, rfl⟩)
        go_region
        all_goals
          go_wp2
          go_ret
          exact ⟨by rw [HR.out]; rfl, q + 1, rfl⟩
    · have hyl : ¬ (k : Int) < (y.length : Int) := by omega
      have HR : Hid (cmpK x y = 1) := by
        have h3 : ¬ x < y := by
          rw [HL.out]
          rintro (⟨h, _⟩ | ⟨_, h, _⟩)
          · exact hx h
          · exact hy h
        have h4 : ¬ x = y := fun h => hx (HQ.out.1 h).1
        unfold Hid cmpK
        grind
      go_enter Try.func66, Try.ntmps66
      go_wp2_with (go_at_call 68; refine HCO.mono ?_; rintro e w' ⟨rfl, q, rfl⟩)
      go_region
      all_goals
        go_wp2
        go_ret
        exact ⟨by rw [HR.out]; rfl, q + 1, rfl⟩
end Go.Proofs.Ytgifnaahahfhbaa
