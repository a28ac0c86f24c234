import Derived.Test.YtpmcpomomagkhaaPackPure
import Derived.WalkKit
import Derived.OwnWalk
import Derived.BigQuiet
import Derived.Deep.LoopGhost
import Derived.WalkMore
import Derived.Deep.WholeRow
import Derived.Deep.MidRow
import Derived.Lib.SlBytesConst
import Derived.Laws.AppendOwnNone
import Derived.Laws.BytesArg
import Derived.Deep.RegionHeldLaw
import Derived.Laws.CopyOwn
import Derived.Deep.RegionWith
import Derived.Deep.RegionLaw
import Derived.Deep.DeepCutAuto
/- Keys and ranges in memory; what the calls of order leave alone. -/
namespace Go.Proofs.Ytpmcpomomagkhaa
open Go.RowKit

theorem row_cell {w : World} {b : Nat} {cur : Array Value} {t : TypeId} (h : w.heap[b]? = some (.cells cur t (0, 0))) (i : Nat) : w.cell? ⟨b, i, none⟩ = cur[i]? := by
  simp [World.cell?, h]
theorem row_frozen {w : World} {b : Nat} {cur : Array Value} {t : TypeId} (h : w.heap[b]? = some (.cells cur t (0, 0))) (i : Nat) : w.frozen? ⟨b, i, none⟩ = false := by
  simp [World.frozen?, h]
theorem heap_set_same {w : World} {b i : Nat} {cur : Array Value} {t : TypeId} (v : Value) (h : w.heap[b]? = some (.cells cur t (0, 0))) : (w.setCell ⟨b, i, none⟩ v).heap[b]? = some (.cells (cur.setIfInBounds i v) t (0, 0)) := heap_setCell_same w b i cur t v h
theorem heap_set_other {w : World} {b i k : Nat} (v : Value) (h : k ≠ b) : (w.setCell ⟨b, i, none⟩ v).heap[k]? = w.heap[k]? := Below.heap_setCell w _ v k h
theorem add_at (g off j : Nat) : (⟨g, off, none⟩ : Addr).add j = ⟨g, off + j, none⟩ := by unfold Addr.add; split <;> simp_all
theorem ret_int {k : IntKind} {a b : Int} (h : a = b) : Ending.returned (.int k a) = .returned (.int k b) := by rw [h]
theorem ret_bool {a b : Bool} (h : a = b) : Ending.returned (.bool a) = .returned (.bool b) := by rw [h]
theorem below_draws {B : Nat} {a w : World} (h : Below B a w) (n : Nat) : Below B a (w.drewN n) := h.trans ⟨rfl, rfl, rfl, Nat.le_refl _, fun _ _ => rfl⟩

/-- The bytes lie there, in blocks below B. -/
def BytesAt (B : Nat) (w : World) (a : Option Addr) (bs : List UInt8) : Prop :=
  ∀ (j : Nat) c, bs[j]? = some c → ∃ g off, a = some ⟨g, off, none⟩ ∧ g < B ∧ w.cell? ⟨g, off + j, none⟩ = some (.int .u8 (c.toNat : Int))
theorem BytesAt.below {B : Nat} {w w' : World} {a : Option Addr} {bs : List UInt8} (h : BytesAt B w a bs) (hb : Below B w w') : BytesAt B w' a bs := fun j c hj => by
  obtain ⟨g, off, h1, h2, h3⟩ := h j c hj
  exact ⟨g, off, h1, h2, by rw [hb.cell h2]; exact h3⟩
theorem BytesAt.take {B : Nat} {w : World} {a : Option Addr} {bs : List UInt8} (h : BytesAt B w a bs) (n : Nat) : BytesAt B w a (bs.take n) := fun j c hj => by
  rw [List.getElem?_take] at hj
  split at hj
  · exact h j c hj
  · cases hj
theorem BytesAt.mono {B B' : Nat} {w : World} {a : Option Addr} {bs : List UInt8} (h : BytesAt B w a bs) (hB : B ≤ B') : BytesAt B' w a bs := fun j c hj => by
  obtain ⟨g, off, h1, h2, h3⟩ := h j c hj
  exact ⟨g, off, h1, by omega, h3⟩
theorem BytesAt.here {w w' : World} {a : Option Addr} {bs : List UInt8} (h : BytesAt w.heap.size w a bs) (hb : Below w.heap.size w w') : BytesAt w'.heap.size w' a bs := (h.below hb).mono hb.size
def encB (c : UInt8) : Value := .int .u8 (c.toNat : Int)
theorem bytes_row {w : World} {base : Nat} {a : Option Addr} {n cap : Nat} {bs : List UInt8} (h : w.ownsRow base 5 1 (.slice a n cap) n (bs.map encB)) : BytesAt w.heap.size w a bs := fun j c hj => by
  obtain ⟨hl, hr⟩ := h
  have hj' := (List.getElem?_eq_some_iff.1 hj).1
  rcases hr with ⟨_, h0⟩ | ⟨g, cap', cur, hv, _, hg, _, _, _, ht⟩
  · simp at hl; omega
  · cases hv
    refine ⟨g, 0, rfl, (Array.getElem?_eq_some_iff.1 hg).1, ?_⟩
    rw [row_cell hg]
    have : (cur.toList.take (n * 1))[0 + j]? = some (encB c) := by rw [ht, Nat.zero_add, List.getElem?_map, hj]; rfl
    rw [List.getElem?_take] at this
    split at this
    · rw [← Array.getElem?_toList]; exact this
    · cases this

/-- A key's value: a slice, its bytes there. -/
structure KeyAt (w : World) (v : Value) (ks : Key) : Prop where
  is : ∃ a c, v = .slice a ks.length c ∧ BytesAt w.heap.size w a ks ∧ ks.length ≤ c ∧ (a = none → c = 0)
  short : ks.length ≤ 140737488355328
theorem KeyAt.here {w w' : World} {v : Value} {ks : Key} (h : KeyAt w v ks) (hb : Below w.heap.size w w') : KeyAt w' v ks := by
  obtain ⟨⟨a, c, rfl, h1, h2⟩, h3⟩ := h
  exact ⟨⟨a, c, rfl, h1.here hb, h2⟩, h3⟩
theorem KeyAt.draws {w : World} {v : Value} {ks : Key} (h : KeyAt w v ks) (n : Nat) : KeyAt (w.drewN n) v ks := h.here (below_draws (Below.refl _ _) n)
theorem KeyAt.nil (w : World) : KeyAt w (.slice none 0 0) [] := ⟨⟨none, 0, rfl, fun j c hj => by simp at hj, Nat.le_refl _, fun _ => rfl⟩, by decide⟩
/-- A key of new memory. -/
structure NewKey (base : Nat) (w : World) (v : Value) (ks : Key) : Prop where
  own : w.ownsRow base 5 1 v ks.length (ks.map encB)
  short : ks.length ≤ 140737488355328
theorem NewKey.at {base : Nat} {w : World} {v : Value} {ks : Key} (h : NewKey base w v ks) : KeyAt w v ks := by
  obtain ⟨ho, hs⟩ := h
  refine ⟨?_, hs⟩
  obtain ⟨_, h2⟩ := id ho
  rcases h2 with ⟨rfl, h0⟩ | ⟨g, cap, cur, rfl, hb, hg, hc, _⟩
  · refine ⟨none, 0, by rw [h0], ?_, by omega, fun _ => rfl⟩
    exact bytes_row (n := ks.length) (cap := 0) (by rw [h0] at ho ⊢; exact ho)
  · exact ⟨_, cap, rfl, bytes_row ho, hc, fun h => by cases h⟩
theorem own_same {w w' : World} {base e n k : Nat} {v : Value} {xs : List Value} (ho : w.ownsRow base e k v n xs) (h : ∀ b, v.ownBlock = some b → b < w.heap.size → w'.heap[b]? = w.heap[b]?) : w'.ownsRow base e k v n xs := by
  obtain ⟨h1, h2⟩ := ho
  refine ⟨h1, ?_⟩
  rcases h2 with h2 | ⟨g, cap, cur, rfl, hb, hg, hc⟩
  · exact .inl h2
  · exact .inr ⟨g, cap, cur, rfl, hb, by rw [h g rfl (Array.getElem?_eq_some_iff.1 hg).1]; exact hg, hc⟩
theorem own_mono {w : World} {base base' e n k : Nat} {v : Value} {xs : List Value} (ho : w.ownsRow base e k v n xs) (h : base' ≤ base) : w.ownsRow base' e k v n xs := by
  obtain ⟨h1, h2⟩ := ho
  refine ⟨h1, ?_⟩
  rcases h2 with h2 | ⟨g, cap, cur, rfl, hb, hg⟩
  · exact .inl h2
  · exact .inr ⟨g, cap, cur, rfl, by omega, hg⟩
theorem own_type {w : World} {base e n s : Nat} {v : Value} {xs : List Value} (ho : w.ownsRow base e s v n xs) (k : Nat) (hk : v.ownBlock = some k) : k < w.heap.size ∧ base ≤ k ∧ ∃ cur, w.heap[k]? = some (.cells cur e (0, 0)) := by
  obtain ⟨_, h2⟩ := ho
  rcases h2 with ⟨rfl, _⟩ | ⟨g, cap, cur, rfl, hb, hg, _⟩
  · cases hk
  · cases hk
    exact ⟨(Array.getElem?_eq_some_iff.1 hg).1, hb, cur, hg⟩
theorem NewKey.here {base : Nat} {w w' : World} {v : Value} {ks : Key} (h : NewKey base w v ks) (hb : Below w.heap.size w w') : NewKey base w' v ks :=
  ⟨own_same h.1 fun b _ hl => hb.block b hl, h.2⟩
theorem NewKey.mono {base base' : Nat} {w : World} {v : Value} {ks : Key} (h : NewKey base w v ks) (hb : base' ≤ base) : NewKey base' w v ks := ⟨own_mono h.1 hb, h.2⟩
theorem NewKey.nil (base : Nat) (w : World) : NewKey base w (.slice none 0 0) [] := ⟨World.ownsRow_nil _ _ _ _, by decide⟩

/-- A range's value. -/
structure RangeAt (w : World) (v : Value) (r : Rg) : Prop where
  is : ∃ v1 v2, v = .agg #[v1, v2, .bool r.all] ∧ KeyAt w v1 r.lo ∧ KeyAt w v2 r.hi
theorem RangeAt.here {w w' : World} {v : Value} {r : Rg} (h : RangeAt w v r) (hb : Below w.heap.size w w') : RangeAt w' v r := by
  obtain ⟨v1, v2, rfl, h1, h2⟩ := h.is
  exact ⟨v1, v2, rfl, h1.here hb, h2.here hb⟩
/-- A range of new memory: its two keys lie in blocks of their own. -/
structure NewRange (base : Nat) (w : World) (v : Value) (r : Rg) : Prop where
  is : ∃ v1 v2, v = .agg #[v1, v2, .bool r.all] ∧ NewKey base w v1 r.lo ∧ NewKey base w v2 r.hi ∧ ∀ k, v1.ownBlock = some k → v2.ownBlock ≠ some k
theorem NewRange.at {base : Nat} {w : World} {v : Value} {r : Rg} (h : NewRange base w v r) : RangeAt w v r := by
  obtain ⟨v1, v2, rfl, h1, h2, _⟩ := h.is
  exact ⟨v1, v2, rfl, h1.at, h2.at⟩
theorem NewRange.here {base : Nat} {w w' : World} {v : Value} {r : Rg} (h : NewRange base w v r) (hb : Below w.heap.size w w') : NewRange base w' v r := by
  obtain ⟨v1, v2, rfl, h1, h2, h3⟩ := h.is
  exact ⟨v1, v2, rfl, h1.here hb, h2.here hb, h3⟩
theorem NewRange.zero (base : Nat) (w : World) : NewRange base w (.agg #[.slice none 0 0, .slice none 0 0, .bool false]) Rg.zero :=
  ⟨_, _, rfl, NewKey.nil _ _, NewKey.nil _ _, fun k hk => by cases hk⟩

theorem info5 : (Try.prog.info? 5).map (fun i => (i.zero, i.size, i.bytes)) = some (some (.int .u8 0), 1, 1) := by kernel_rfl
theorem info5' : ∃ i, Try.prog.info? 5 = some i ∧ i.zero = some (.int .u8 0) ∧ i.size = 1 ∧ i.bytes = 1 := by
  have h := info5
  cases hi : Try.prog.info? 5 with
  | none => rw [hi] at h; simp at h
  | some i => rw [hi] at h; simp at h; exact ⟨i, rfl, h⟩

theorem byte_ne {x y : UInt8} (h : x ≠ y) : ((x.toNat : Int) == (y.toNat : Int)) = false := by
  rw [beq_eq_false_iff_ne]
  intro e
  exact h (UInt8.toNat_inj.1 (by omega))

theorem take_same {x y : Key} {k : Nat} {c : UInt8} (h : x.take k = y.take k) (hx : x[k]? = some c) (hy : y[k]? = some c) : x.take (k + 1) = y.take (k + 1) := by
  rw [List.take_add_one, List.take_add_one, h, hx, hy]
theorem com_here {x y : Key} {k : Nat} {c d : UInt8} (h : x.take k = y.take k) (hx : x[k]? = some c) (hy : y[k]? = some d) (hne : c ≠ d) : comK x y = k := by
  obtain ⟨h1, rfl⟩ := List.getElem?_eq_some_iff.1 hx
  obtain ⟨h2, rfl⟩ := List.getElem?_eq_some_iff.1 hy
  exact comK_is x y k (by omega) (by omega) h (fun _ _ => hne)
theorem com_end {x y : Key} {k : Nat} (h : x.take k = y.take k) (hx : k ≤ x.length) (hy : k ≤ y.length) (he : k = x.length ∨ k = y.length) : comK x y = k :=
  comK_is x y k hx hy h (fun _ _ => by omega)

set_option maxHeartbeats 800000 in
set_option maxRecDepth 100000 in
theorem common_any (w : World) (a b : Option Addr) (ca cb : Nat) (x y : Key) (hx : BytesAt w.heap.size w a x) (hy : BytesAt w.heap.size w b y) (lx : x.length ≤ 140737488355328) (ly : y.length ≤ 140737488355328) :
    Calls Try.prog 70 #[.slice a x.length ca, .slice b y.length cb] w fun e w' => e = .returned (.int .i64 (comK x y : Int)) ∧ ∃ q, w' = w.drewN q := by
  have HX : Hid (BytesAt w.heap.size w a x) := hx
  have HY : Hid (BytesAt w.heap.size w b y) := hy
  clear hx hy
  by_cases hyx : y.length < x.length
  all_goals
    go_enter Try.func70, Try.ntmps70
    go_wp2
    go_loopw [13] (fun i wx => ∃ k : Nat, k ≤ x.length ∧ k ≤ y.length ∧ i = .int .i64 k ∧ x.take k = y.take k ∧ ∃ q, wx = w.drewN q) (fun i _ => x.length - (intOf i).toNat)
    case atStart => exact ⟨0, by omega, by omega, rfl, by simp, 0, rfl⟩
    case round =>
      obtain ⟨k, hkx, hky, rfl, ht, q, rfl⟩ := hrel
      have HT : Hid (x.take k = y.take k) := ht
      clear ht
      by_cases hlt : k < x.length ∧ k < y.length
      · obtain ⟨h1, h2⟩ := hlt
        have h1z : (k : Int) < (x.length : Int) := by omega
        have h2z : (k : Int) < (y.length : Int) := by omega
        obtain ⟨c, hc⟩ : ∃ c, x[k]? = some c := ⟨x[k]'(by omega), List.getElem?_eq_getElem (by omega)⟩
        obtain ⟨d, hd⟩ : ∃ d, y[k]? = some d := ⟨y[k]'(by omega), List.getElem?_eq_getElem (by omega)⟩
        obtain ⟨g, off, rfl, hg, hcell⟩ := HX.out k c hc
        obtain ⟨g', off', rfl, hg', hcell'⟩ := HY.out k d hd
        have HC : Hid (x[k]? = some c) := hc
        have HD : Hid (y[k]? = some d) := hd
        clear hc hd
        by_cases e : c = d
        · subst e
          go_wp2
          go_region
          all_goals
            go_wp2
            exact ⟨⟨k + 1, by omega, by omega, by go_num, take_same HT.out HC.out HD.out, q + 1, rfl⟩, by simp [intOf]; omega⟩
        · have hne := byte_ne e
          have HE : Hid (comK x y = k) := com_here HT.out HC.out HD.out e
          go_wp2
          go_region
          all_goals
            go_wp2
            go_ret
            exact ⟨by rw [HE.out]; rfl, q + 1, rfl⟩
      · have h3z : ¬ (k : Int) < (x.length : Int) ∨ ¬ (k : Int) < (y.length : Int) := by omega
        have HE : Hid (comK x y = k) := com_end HT.out hkx hky (by omega)
        obtain ⟨m, rfl⟩ : ∃ m, m = k := ⟨_, rfl⟩
        go_wp2
        go_ret
        exact ⟨by rw [HE.out]; exact ret_int (by omega), q, rfl⟩

theorem draws_add (w : World) (p q : Nat) : (w.drewN p).drewN q = w.drewN (p + q) := by
  simp [World.drewN, Nat.add_assoc]
set_option maxHeartbeats 800000 in
set_option maxRecDepth 100000 in
theorem compare_any (w : World) (a b : Option Addr) (ca cb : Nat) (x y : Key) (hx : BytesAt w.heap.size w a x) (hy : BytesAt w.heap.size w b y) (lx : x.length ≤ 140737488355328) (ly : y.length ≤ 140737488355328) :
    Calls Try.prog 56 #[.slice a x.length ca, .slice b y.length cb] w fun e w' => e = .returned (.int .i64 (cmpK x y)) ∧ ∃ q, w' = w.drewN q := by
  have HX : Hid (BytesAt w.heap.size w a x) := hx
  have HY : Hid (BytesAt w.heap.size w b y) := hy
  clear hx hy
  have hkx := comK_left x y
  have hky := comK_right x y
  have HCO := common_any w a b ca cb x y HX.out HY.out lx ly
  have HL : Hid (x < y ↔ (comK x y = x.length ∧ comK x y < y.length) ∨ ∃ (h1 : comK x y < x.length) (h2 : comK x y < y.length), x[comK x y] < y[comK x y]) := lt_iff_com x y
  have HQ : Hid (x = y ↔ comK x y = x.length ∧ comK x y = y.length) := eq_iff_com x y
  have HP : Hid (∀ (h1 : comK x y < x.length) (h2 : comK x y < y.length), x[comK x y] ≠ y[comK x y]) := comK_part x y
  obtain ⟨k, hk⟩ : ∃ k, k = comK x y := ⟨_, rfl⟩
  rw [← hk] at HCO HL HQ hkx hky
  rw [← hk] at HP
  clear hk
  by_cases hx : k = x.length
  · by_cases hy : k = y.length
    · have HR : Hid (cmpK x y = 0) := by rw [Hid, cmpK_eq]; exact HQ.out.2 ⟨hx, hy⟩
      go_enter Try.func56, Try.ntmps56
      go_wp2_with (go_at_call 70; refine HCO.mono ?_; rintro e w' ⟨rfl, q, rfl⟩)
      go_ret
      exact ⟨by rw [HR.out]; rfl, q, rfl⟩
    · have HR : Hid (cmpK x y = -1) := by rw [Hid, cmpK_lt_one]; exact HL.out.2 (.inl ⟨hx, by omega⟩)
      have hyz : ((k : Int) == (y.length : Int)) = false := by rw [beq_eq_false_iff_ne]; omega
      subst hx
      go_enter Try.func56, Try.ntmps56
      go_wp2_with (go_at_call 70; refine HCO.mono ?_; rintro e w' ⟨rfl, q, rfl⟩)
      go_ret
      exact ⟨by rw [HR.out]; rfl, q, rfl⟩
  · have hxz : ((k : Int) == (x.length : Int)) = false := by rw [beq_eq_false_iff_ne]; omega
    have hxl : (k : Int) < (x.length : Int) := by omega
    by_cases hy : k < y.length
    · have hyl : (k : Int) < (y.length : Int) := by omega
      obtain ⟨c, hc⟩ : ∃ c, x[k]? = some c := ⟨x[k]'(by omega), List.getElem?_eq_getElem (by omega)⟩
      obtain ⟨d, hd⟩ : ∃ d, y[k]? = some d := ⟨y[k]'(by omega), List.getElem?_eq_getElem (by omega)⟩
      obtain ⟨h1, hce⟩ := List.getElem?_eq_some_iff.1 hc
      obtain ⟨h2, hde⟩ := List.getElem?_eq_some_iff.1 hd
      have hcd : c ≠ d := by rw [← hce, ← hde]; exact HP.out h1 h2
      have HC : Hid _ := hce
      have HD : Hid _ := hde
      obtain ⟨g, off, rfl, hg, hcell⟩ := HX.out k c hc
      obtain ⟨g', off', rfl, hg', hcell'⟩ := HY.out k d hd
      clear hc hd hce hde
      by_cases hlt : c < d
      · have HR : Hid (cmpK x y = -1) := by rw [Hid, cmpK_lt_one]; exact HL.out.2 (.inr ⟨h1, h2, by rw [HC.out, HD.out]; exact hlt⟩)
        have hz : (c.toNat : Int) < (d.toNat : Int) := by have := UInt8.lt_iff_toNat_lt.1 hlt; omega
        go_enter Try.func56, Try.ntmps56
        go_wp2_with (go_at_call 70; refine HCO.mono ?_; rintro e w' ⟨rfl, q, rfl⟩)
        go_region
        all_goals
          go_wp2
          go_ret
          exact ⟨by rw [HR.out]; rfl, q + 1, rfl⟩
      · have hgt : d < c := by grind
        have HR : Hid (cmpK x y = 1) := by
          have h3 : ¬ x < y := by
            rw [HL.out]
            rintro (⟨h, _⟩ | ⟨_, _, h⟩)
            · exact hx h
            · rw [HC.out, HD.out] at h; exact hlt h
          have h4 : ¬ x = y := fun h => hx (HQ.out.1 h).1
          unfold Hid cmpK
          grind
        have hz : ¬ (c.toNat : Int) < (d.toNat : Int) := by have := UInt8.lt_iff_toNat_lt.1 hgt; omega
        go_enter Try.func56, Try.ntmps56
        go_wp2_with (go_at_call 70; refine HCO.mono ?_; rintro e w' ⟨rfl, q, rfl⟩)
        go_region
        all_goals
          go_wp2
          go_ret
          exact ⟨by rw [HR.out]; rfl, q + 1, rfl⟩
    · have hyl : ¬ (k : Int) < (y.length : Int) := by omega
      have HR : Hid (cmpK x y = 1) := by
        have h3 : ¬ x < y := by
          rw [HL.out]
          rintro (⟨h, _⟩ | ⟨_, h, _⟩)
          · exact hx h
          · exact hy h
        have h4 : ¬ x = y := fun h => hx (HQ.out.1 h).1
        unfold Hid cmpK
        grind
      go_enter Try.func56, Try.ntmps56
      go_wp2_with (go_at_call 70; refine HCO.mono ?_; rintro e w' ⟨rfl, q, rfl⟩)
      go_region
      all_goals
        go_wp2
        go_ret
        exact ⟨by rw [HR.out]; rfl, q + 1, rfl⟩
end Go.Proofs.Ytpmcpomomagkhaa

/- The small functions of order: Empty, Has, reaches, anew, Next, Between. -/
namespace Go.Proofs.Ytpmcpomomagkhaa
open Go.RowKit

theorem compare_key {w : World} {u v : Value} {x y : Key} (hu : KeyAt w u x) (hv : KeyAt w v y) :
    Calls Try.prog 56 #[u, v] w fun e w' => e = .returned (.int .i64 (cmpK x y)) ∧ ∃ q, w' = w.drewN q := by
  obtain ⟨⟨a, c, rfl, h1, _⟩, h2⟩ := hu
  obtain ⟨⟨a', c', rfl, h1', _⟩, h2'⟩ := hv
  exact compare_any w a a' c c' x y h1 h1' h2 h2'
theorem common_key {w : World} {u v : Value} {x y : Key} (hu : KeyAt w u x) (hv : KeyAt w v y) :
    Calls Try.prog 70 #[u, v] w fun e w' => e = .returned (.int .i64 (comK x y : Int)) ∧ ∃ q, w' = w.drewN q := by
  obtain ⟨⟨a, c, rfl, h1, _⟩, h2⟩ := hu
  obtain ⟨⟨a', c', rfl, h1', _⟩, h2'⟩ := hv
  exact common_any w a a' c c' x y h1 h1' h2 h2'
theorem below_new (w : World) (o : Obj) : Below w.heap.size w (w.alloc o) := (Below.refl _ _).alloc (Nat.le_refl _) _

/-- A range's value is no function's business: three cells. -/
theorem range_one {w : World} {v1 v2 : Value} {x y : Key} (h1 : KeyAt w v1 x) (h2 : KeyAt w v2 y) : v1.oneCell' = true ∧ v2.oneCell' = true := by
  obtain ⟨⟨a, c, rfl, _⟩, _⟩ := h1
  obtain ⟨⟨a', c', rfl, _⟩, _⟩ := h2
  exact ⟨rfl, rfl⟩

set_option maxRecDepth 100000 in
theorem empty_any {w : World} {v : Value} {r : Rg} (h : RangeAt w v r) :
    Calls Try.prog 66 #[v] w fun e w' => e = .returned (.bool r.empty) ∧ Below w.heap.size w w' := by
  obtain ⟨v1, v2, rfl, h1, h2⟩ := h.is
  obtain ⟨lo, hi, all⟩ := r
  obtain ⟨⟨a, c, rfl, hb, hx⟩, hl⟩ := h1
  obtain ⟨⟨a', c', rfl, hb', hx'⟩, hl'⟩ := h2
  simp only [Rg.empty] at *
  have HB0 : Hid (Below w.heap.size w (w.alloc (.cells #[.slice a lo.length c, .slice a' hi.length c', .bool all] 102))) := below_new _ _
  have HCO := compare_key (KeyAt.here ⟨⟨a, c, rfl, hb, hx⟩, hl⟩ HB0.out) (KeyAt.here ⟨⟨a', c', rfl, hb', hx'⟩, hl'⟩ HB0.out)
  cases all with
  | true =>
    go_enter Try.func66, Try.ntmps66
    go_wp2
    go_ret
    exact ⟨rfl, HB0.out⟩
  | false =>
    have HE : Hid (decide (0 ≤ cmpK lo hi) = decide (hi ≤ lo)) := by simp [Hid, cmpK_ge]
    go_enter Try.func66, Try.ntmps66
    go_wp2_with (go_at_call 56; refine HCO.mono ?_; rintro e w' ⟨rfl, q, rfl⟩)
    go_ret
    exact ⟨ret_bool (by simpa using HE.out), below_draws HB0.out q⟩

set_option maxRecDepth 100000 in
theorem anew_any {w : World} {v : Value} {k : Key} (h : KeyAt w v k) :
    Calls Try.prog 94 #[v] w fun e w' => ∃ v', e = .returned v' ∧ NewKey w.heap.size w' v' k ∧ Below w.heap.size w w' := by
  obtain ⟨i0, hi, hz0, hz1, hz2⟩ := info5'
  obtain ⟨⟨a, c, rfl, hb, hx, hn⟩, hl⟩ := h
  have HB : Hid (BytesAt w.heap.size w a k) := hb
  clear hb
  cases a with
  | none =>
    have h0 : k = [] := by
      cases k with
      | nil => rfl
      | cons b r => obtain ⟨_, _, e, _⟩ := HB.out 0 b rfl; cases e
    subst h0
    obtain rfl := hn rfl
    go_enter Try.func94, Try.ntmps94
    go_wp2_with (at_builtin; refine wpList_append_own_none rfl _ _ 32 rfl w.heap.size 5 i0 1 Try.underlying32 hi _ _ _ rfl (World.ownsRow_nil _ _ _ _) rfl ?_)
    go_ret
    exact ⟨_, rfl, NewKey.nil _ _, Below.refl _ _⟩
  | some ad =>
    have HC : Hid (∀ (j : Nat) (u : Value), (k.map encB)[j]? = some u → w.cell? (ad.add j) = some u) := by
      intro j u hj
      rw [List.getElem?_map] at hj
      cases e : k[j]? with
      | none => rw [e] at hj; cases hj
      | some b =>
        rw [e] at hj
        cases hj
        obtain ⟨g', off, e1, _, hc⟩ := HB.out j b e
        cases e1
        rw [add_at]
        exact hc
    have HO : Hid (∀ u ∈ k.map encB, u.oneCell' = true) := by
      intro u hu
      obtain ⟨b, _, rfl⟩ := List.mem_map.1 hu
      rfl
    go_enter Try.func94, Try.ntmps94
    go_wp2_with (at_builtin; refine wpList_append_own w rfl _ _ 32 rfl w.heap.size 5 i0 (.int .u8 0) 1 1 Try.underlying32 hi hz0 hz1 hz2 rfl (by decide) _ 0 [] rfl (World.ownsRow_nil _ _ _ _) ad k.length c (k.map encB) rfl (by simp) HC.out HO.out (by unfold maxLen; omega) (by omega) (Nat.le_refl _) ?_
                 intro v' w' hown hgr hiff
                 have HOW : Hid _ := hown
                 have HGR : Hid _ := hgr
                 clear hown hgr hiff)
    go_ret
    refine ⟨_, rfl, ⟨?_, hl⟩, (Below.refl _ _).grown HGR.out (Nat.le_refl _) (fun k e => by cases e)⟩
    have := HOW.out
    rw [Nat.zero_add, List.nil_append] at this
    exact this
set_option maxRecDepth 100000 in
theorem anewG_any {w : World} {v : Value} {k : Key} (h : KeyAt w v k) :
    Calls Try.prog 75 #[v] w fun e w' => ∃ v', e = .returned v' ∧ NewKey w.heap.size w' v' k ∧ Below w.heap.size w w' := by
  obtain ⟨i0, hi, hz0, hz1, hz2⟩ := info5'
  obtain ⟨⟨a, c, rfl, hb, hx, hn⟩, hl⟩ := h
  have HB : Hid (BytesAt w.heap.size w a k) := hb
  clear hb
  cases a with
  | none =>
    have h0 : k = [] := by
      cases k with
      | nil => rfl
      | cons b r => obtain ⟨_, _, e, _⟩ := HB.out 0 b rfl; cases e
    subst h0
    obtain rfl := hn rfl
    go_enter Try.func75, Try.ntmps75
    go_wp2_with (at_builtin; refine wpList_append_own_none rfl _ _ 32 rfl w.heap.size 5 i0 1 Try.underlying32 hi _ _ _ rfl (World.ownsRow_nil _ _ _ _) rfl ?_)
    go_ret
    exact ⟨_, rfl, NewKey.nil _ _, Below.refl _ _⟩
  | some ad =>
    have HC : Hid (∀ (j : Nat) (u : Value), (k.map encB)[j]? = some u → w.cell? (ad.add j) = some u) := by
      intro j u hj
      rw [List.getElem?_map] at hj
      cases e : k[j]? with
      | none => rw [e] at hj; cases hj
      | some b =>
        rw [e] at hj
        cases hj
        obtain ⟨g', off, e1, _, hc⟩ := HB.out j b e
        cases e1
        rw [add_at]
        exact hc
    have HO : Hid (∀ u ∈ k.map encB, u.oneCell' = true) := by
      intro u hu
      obtain ⟨b, _, rfl⟩ := List.mem_map.1 hu
      rfl
    go_enter Try.func75, Try.ntmps75
    go_wp2_with (at_builtin; refine wpList_append_own w rfl _ _ 32 rfl w.heap.size 5 i0 (.int .u8 0) 1 1 Try.underlying32 hi hz0 hz1 hz2 rfl (by decide) _ 0 [] rfl (World.ownsRow_nil _ _ _ _) ad k.length c (k.map encB) rfl (by simp) HC.out HO.out (by unfold maxLen; omega) (by omega) (Nat.le_refl _) ?_
                 intro v' w' hown hgr hiff
                 have HOW : Hid _ := hown
                 have HGR : Hid _ := hgr
                 clear hown hgr hiff)
    go_ret
    refine ⟨_, rfl, ⟨?_, hl⟩, (Below.refl _ _).grown HGR.out (Nat.le_refl _) (fun k e => by cases e)⟩
    have := HOW.out
    rw [Nat.zero_add, List.nil_append] at this
    exact this
end Go.Proofs.Ytpmcpomomagkhaa

/- A range in its form, of new memory; a range that is stretched. -/
namespace Go.Proofs.Ytpmcpomomagkhaa
open Go.RowKit

/-- A block that holds a range. -/
structure Box (w : World) (b : Nat) (x y z : Value) : Prop where
  row : w.heap[b]? = some (.cells #[x, y, z] 102 (0, 0))
theorem Box.lt {w : World} {b : Nat} {x y z : Value} (h : Box w b x y z) : b < w.heap.size := (Array.getElem?_eq_some_iff.1 h.row).1
theorem Box.cells {w : World} {b : Nat} {x y z : Value} (h : Box w b x y z) : w.cell? ⟨b, 0, none⟩ = some x ∧ w.cell? ⟨b, 1, none⟩ = some y ∧ w.cell? ⟨b, 2, none⟩ = some z :=
  ⟨by rw [row_cell h.row]; rfl, by rw [row_cell h.row]; rfl, by rw [row_cell h.row]; rfl⟩
theorem Box.open {w : World} {b : Nat} {x y z : Value} (h : Box w b x y z) : w.frozen? ⟨b, 0, none⟩ = false ∧ w.frozen? ⟨b, 1, none⟩ = false ∧ w.frozen? ⟨b, 2, none⟩ = false :=
  ⟨row_frozen h.row _, row_frozen h.row _, row_frozen h.row _⟩
theorem Box.here {w w' : World} {b : Nat} {x y z : Value} (h : Box w b x y z) (hb : Below w.heap.size w w') : Box w' b x y z := ⟨by rw [hb.block b h.lt]; exact h.row⟩
theorem Box.below {B : Nat} {w w' : World} {b : Nat} {x y z : Value} (h : Box w b x y z) (hb : Below B w w') (hl : b < B) : Box w' b x y z := ⟨by rw [hb.block b hl]; exact h.row⟩
theorem Box.new (w : World) (x y z : Value) : Box (w.alloc (.cells #[x, y, z] 102)) w.heap.size x y z := ⟨heap_alloc_last _ _⟩
theorem Box.alloc {w : World} {b : Nat} {x y z : Value} (h : Box w b x y z) (o : Obj) : Box (w.alloc o) b x y z := h.here (below_new w o)
theorem Box.set0 {w : World} {b : Nat} {x y z : Value} (h : Box w b x y z) (v : Value) : Box (w.setCell ⟨b, 0, none⟩ v) b v y z := ⟨heap_set_same v h.row⟩
theorem Box.set1 {w : World} {b : Nat} {x y z : Value} (h : Box w b x y z) (v : Value) : Box (w.setCell ⟨b, 1, none⟩ v) b x v z := ⟨heap_set_same v h.row⟩
theorem Box.set2 {w : World} {b : Nat} {x y z : Value} (h : Box w b x y z) (v : Value) : Box (w.setCell ⟨b, 2, none⟩ v) b x y v := ⟨heap_set_same v h.row⟩
theorem Box.other {w : World} {b c i : Nat} {x y z : Value} (h : Box w b x y z) (v : Value) (hc : b ≠ c) : Box (w.setCell ⟨c, i, none⟩ v) b x y z := ⟨by rw [heap_set_other v hc]; exact h.row⟩

theorem key_one {w : World} {v : Value} {k : Key} (h : KeyAt w v k) : v.oneCell' = true := by
  obtain ⟨⟨a, c, rfl, _⟩, _⟩ := h; rfl
theorem NewKey.apart {base base' : Nat} {w w' : World} {v v' : Value} {k k' : Key} (h : NewKey base w v k) (h' : NewKey base' w' v' k') (hb : w.heap.size ≤ base') : ∀ b, v.ownBlock = some b → v'.ownBlock ≠ some b := fun b hv hv' => by
  have h1 := (own_type h.1 b hv).1
  have h2 := (own_type h'.1 b hv').2.1
  omega

theorem cell_far {w : World} {b c i j : Nat} {v : Value} (h : b ≠ c) : (w.setCell ⟨c, i, none⟩ v).cell? ⟨b, j, none⟩ = w.cell? ⟨b, j, none⟩ := World.cell?_of_block (a := ⟨b, j, none⟩) (heap_set_other v h)
/-- A range that is stored whole. -/
def put3 (w : World) (b : Nat) (x y z : Value) : World := ((w.setCell ⟨b, 0, none⟩ x).setCell ⟨b, 1, none⟩ y).setCell ⟨b, 2, none⟩ z
theorem put3_box {w : World} {b : Nat} {x y z x' y' z' : Value} (h : Box w b x y z) : Box (put3 w b x' y' z') b x' y' z' := ((h.set0 x').set1 y').set2 z'
theorem put3_other {w : World} {b k : Nat} (x y z : Value) (hk : k ≠ b) : (put3 w b x y z).heap[k]? = w.heap[k]? := by
  unfold put3; rw [heap_set_other _ hk, heap_set_other _ hk, heap_set_other _ hk]
theorem put3_size (w : World) (b : Nat) (x y z : Value) : (put3 w b x y z).heap.size = w.heap.size := by simp [put3]
theorem put3_below {B b : Nat} {a w : World} (h : Below B a w) (hb : B ≤ b) (x y z : Value) : Below B a (put3 w b x y z) := ((h.setCell hb _).setCell hb _).setCell hb _
theorem tag_ne {w : World} {b k : Nat} {c c' : Array Value} {t t' : TypeId} (h : w.heap[b]? = some (.cells c t (0, 0))) (h' : w.heap[k]? = some (.cells c' t' (0, 0))) (ht : t ≠ t') : b ≠ k := fun e => by
  subst e
  rw [h] at h'
  cases h'
  exact ht rfl
theorem NewKey.put3 {base : Nat} {w : World} {v : Value} {k : Key} {b : Nat} {x y z : Value} (h : NewKey base w v k) (hB : Box w b x y z) (x' y' z' : Value) : NewKey base (put3 w b x' y' z') v k :=
  ⟨own_same h.1 fun g hg _ => by
    obtain ⟨_, _, cur, hc⟩ := own_type h.1 g hg
    exact put3_other _ _ _ (tag_ne hc hB.row (by decide)), h.2⟩
theorem info36 : (Try.prog.info? 102).map (·.size) = some 3 := by kernel_rfl
theorem ret_box {fn : Func} {p : Tmp} (h : fn.results = #[.cell p 102]) {tmps : Array Value} {w : World} {b : Nat} {x y z : Value} (hp : tmps.getD p undef = .pointer (some ⟨b, 0, none⟩)) (hB : Box w b x y z) :
    (results fn tmps).run Try.prog w = .ok (.agg #[x, y, z]) w :=
  results_cell_row h tmps w b 102 #[x, y, z] (0, 0) _ hp hB.row Try.underlying102 rfl info36
theorem NewKey.set {base : Nat} {w : World} {v : Value} {k : Key} {b i : Nat} {x y z : Value} (h : NewKey base w v k) (hB : Box w b x y z) (u : Value) : NewKey base (w.setCell ⟨b, i, none⟩ u) v k :=
  ⟨own_same h.1 fun g hg _ => by
    obtain ⟨_, _, cur, hc⟩ := own_type h.1 g hg
    exact heap_set_other _ (tag_ne hc hB.row (by decide)), h.2⟩

set_option maxHeartbeats 1600000 in
set_option maxRecDepth 100000 in
theorem form_any {w : World} {v : Value} {r : Rg} (h : RangeAt w v r) :
    Calls Try.prog 87 #[v] w fun e w' => ∃ v', e = .returned v' ∧ NewRange w.heap.size w' v' r.form ∧ Below w.heap.size w w' := by
  obtain ⟨v1, v2, rfl, h1, h2⟩ := h.is
  obtain ⟨lo, hi, all⟩ := r
  obtain ⟨⟨a, c, rfl, hb, hx⟩, hl⟩ := h1
  obtain ⟨⟨a', c', rfl, hb', hx'⟩, hl'⟩ := h2
  simp only at *
  have HE0 : Hid (RangeAt w (.agg #[.slice a lo.length c, .slice a' hi.length c', .bool all]) ⟨lo, hi, all⟩) := h
  have HK1 : Hid (KeyAt w (.slice a lo.length c) lo) := ⟨⟨a, c, rfl, hb, hx⟩, hl⟩
  have HK2 : Hid (KeyAt w (.slice a' hi.length c') hi) := ⟨⟨a', c', rfl, hb', hx'⟩, hl'⟩
  clear h hb hb' hx hx' hl hl'
  go_enter Try.func87, Try.ntmps87
  go_wp2_with fail
  obtain ⟨W, hW⟩ : ∃ W, W = ((w.alloc (.cells #[.slice a lo.length c, .slice a' hi.length c', .bool all] 102)).alloc (.cells #[.slice none 0 0, .slice none 0 0, .bool false] 102)).alloc (.cells #[.slice none 0 0, .slice none 0 0, .bool false] 102) := ⟨_, rfl⟩
  rw [← hW]
  have hbW : Below w.heap.size w W := by rw [hW]; exact ((below_new w _).alloc (by simp) _).alloc (by simp; omega) _
  have hsW : W.heap.size = w.heap.size + 3 := by rw [hW]; simp
  have hx0 : Box W w.heap.size (.slice a lo.length c) (.slice a' hi.length c') (.bool all) := by rw [hW]; exact ((Box.new w _ _ _).alloc _).alloc _
  have hx2 : Box W (w.heap.size + 2) (.slice none 0 0) (.slice none 0 0) (.bool false) := by
    rw [hW]
    have := Box.new ((w.alloc (.cells #[.slice a lo.length c, .slice a' hi.length c', .bool all] 102)).alloc (.cells #[.slice none 0 0, .slice none 0 0, .bool false] 102)) (.slice none 0 0) (.slice none 0 0) (.bool false)
    simpa using this
  have hx1 : Box W (w.heap.size + 1) (.slice none 0 0) (.slice none 0 0) (.bool false) := by
    rw [hW]
    have := (Box.new (w.alloc (.cells #[.slice a lo.length c, .slice a' hi.length c', .bool all] 102)) (.slice none 0 0) (.slice none 0 0) (.bool false)).alloc (.cells #[.slice none 0 0, .slice none 0 0, .bool false] 102)
    simpa using this
  have HBW : Hid (Below w.heap.size w W) := hbW
  have HX0 : Hid (Box W w.heap.size (.slice a lo.length c) (.slice a' hi.length c') (.bool all)) := hx0
  have HX1 : Hid (Box W (w.heap.size + 1) (.slice none 0 0) (.slice none 0 0) (.bool false)) := hx1
  have HX2 : Hid (Box W (w.heap.size + 2) (.slice none 0 0) (.slice none 0 0) (.bool false)) := hx2
  have HSW : Hid (W.heap.size = w.heap.size + 3) := hsW
  clear hW
  refine (empty_any (HE0.out.here hbW)).mono ?_
  rintro _ w1 ⟨rfl, hb1⟩
  clear hbW hx0 hx1 hx2 hsW
  have HB1 : Hid (Below W.heap.size W w1) := hb1
  have hy0 := HX0.out.here hb1
  have hy1 := HX1.out.here hb1
  have hy2 := HX2.out.here hb1
  have HY0 : Hid (Box w1 w.heap.size (.slice a lo.length c) (.slice a' hi.length c') (.bool all)) := hy0
  have HY1 : Hid (Box w1 (w.heap.size + 1) (.slice none 0 0) (.slice none 0 0) (.bool false)) := hy1
  have HY2 : Hid (Box w1 (w.heap.size + 2) (.slice none 0 0) (.slice none 0 0) (.bool false)) := hy2
  have HBW1 : Hid (Below w.heap.size w w1) := HBW.out.trans (hb1.mono (by rw [HSW.out]; omega))
  obtain ⟨b0, hb0⟩ : ∃ b0, b0 = w.heap.size := ⟨_, rfl⟩
  obtain ⟨k0, k1, k2⟩ := hy0.cells
  obtain ⟨m0, m1, m2⟩ := hy2.cells
  obtain ⟨f0, f1, f2⟩ := hy2.open
  obtain ⟨r0, r1, r2⟩ := hy1.cells
  obtain ⟨g0, g1, g2⟩ := hy1.open
  have l2 := hy2.lt
  clear hb1 hy0 hy1 hy2
  cases he : Rg.empty ⟨lo, hi, all⟩ with
  | true =>
    have HF : Hid (Rg.form ⟨lo, hi, all⟩ = Rg.zero) := by simp [Hid, Rg.form, he]
    clear he
    go_wp2
    refine bodyPost_ret (ret_box rfl rfl (put3_box HY1.out)) rfl ⟨_, rfl, ?_, put3_below HBW1.out (by omega) _ _ _⟩
    rw [HF.out]
    exact NewRange.zero _ _
  | false =>
    cases all with
    | true =>
      have HF : Hid (Rg.form ⟨lo, hi, true⟩ = ⟨lo, [], true⟩) := by simp [Hid, Rg.form, he]
      clear he
      go_wp2_with fail
      go_region_held_law (fun W' => W'.cell? ⟨w.heap.size, 0, none⟩ = some (.slice a lo.length c) ∧ W'.cell? ⟨w.heap.size, 2, none⟩ = some (.bool true)) (first | go_keep | (constructor <;> ((repeat rw [cell_far (by omega)]); assumption)))
        (first
          | (go_at_call 94; refine (anew_any ((HK1.out.here HBW1.out).here ((Below.refl _ w1).drew))).mono ?_
             rintro _ w2 ⟨u, rfl, hu, hb2⟩
             obtain ⟨a2, c2, rfl, _, _⟩ := hu.at.is
             have HU : Hid _ := hu
             have HB2 : Hid (Below w1.heap.size w1 w2) := ((Below.refl _ w1).drew).trans hb2
             clear hu hb2
             obtain ⟨p0, _, p2⟩ := (HY0.out.here HB2.out).cells
             obtain ⟨q0, q1, q2⟩ := (HY2.out.here HB2.out).cells
             obtain ⟨o0, o1, o2⟩ := (HY2.out.here HB2.out).open))
      have hz1 := (HY1.out.here HB2.out).other (c := w.heap.size + 2) (i := 0) (.slice a2 lo.length c2) (by omega)
      have hz1 := hz1.other (c := w.heap.size + 2) (i := 2) (.bool true) (by omega)
      have hz2 := ((HY2.out.here HB2.out).set0 (.slice a2 lo.length c2)).set2 (.bool true)
      have hz3 := (HU.out.set (HY2.out.here HB2.out) (i := 0) (.slice a2 lo.length c2)).set ((HY2.out.here HB2.out).set0 (.slice a2 lo.length c2)) (i := 2) (.bool true)
      have hz4 : Below w.heap.size w ((w2.setCell ⟨w.heap.size + 2, 0, none⟩ (.slice a2 lo.length c2)).setCell ⟨w.heap.size + 2, 2, none⟩ (.bool true)) := ((HBW1.out.trans (HB2.out.mono HBW1.out.size)).setCell (by show _ ≤ _ + 2; omega) _).setCell (by show _ ≤ _ + 2; omega) _
      obtain ⟨w3, hw3⟩ : ∃ w3, w3 = (w2.setCell ⟨w.heap.size + 2, 0, none⟩ (.slice a2 lo.length c2)).setCell ⟨w.heap.size + 2, 2, none⟩ (.bool true) := ⟨_, rfl⟩
      rw [← hw3] at hz1 hz2 hz3 hz4 ⊢
      have HZ1 : Hid _ := hz1
      have HZ3 : Hid _ := hz3
      have HZ4 : Hid _ := hz4
      clear hw3 k0 k1 k2 m0 m1 m2 f0 f1 f2 r0 r1 r2 g0 g1 g2 p0 p2 q0 q1 q2 o0 o1 o2 l2
      obtain ⟨m0, m1, m2⟩ := hz2.cells
      obtain ⟨r0, r1, r2⟩ := hz1.cells
      obtain ⟨g0, g1, g2⟩ := hz1.open
      clear hz1 hz2 hz3 hz4
      go_wp2
      refine bodyPost_ret (ret_box rfl rfl (put3_box HZ1.out)) rfl ⟨_, rfl, ?_, put3_below HZ4.out (by omega) _ _ _⟩
      rw [HF.out]
      exact ⟨_, _, rfl, (HZ3.out.mono HBW1.out.size).put3 HZ1.out _ _ _, NewKey.nil _ _, fun k _ h => by cases h⟩
    | false =>
      have HF : Hid (Rg.form ⟨lo, hi, false⟩ = ⟨lo, hi, false⟩) := by simp [Hid, Rg.form, he]
      clear he
      go_wp2_with fail
      refine (anew_any (HK2.out.here HBW1.out)).mono ?_
      rintro _ w2 ⟨u, rfl, hu, hb2⟩
      obtain ⟨a3, c3, rfl, _, _⟩ := hu.at.is
      have hy0 := (HY0.out.here hb2)
      have hy1 := (HY1.out.here hb2)
      have hy2 := (HY2.out.here hb2)
      clear k0 k1 k2 m0 m1 m2 f0 f1 f2 r0 r1 r2 g0 g1 g2 l2
      obtain ⟨m0, m1, m2⟩ := hy2.cells
      obtain ⟨f0, f1, f2⟩ := hy2.open
      have hz0 := hy0.other (c := w.heap.size + 2) (i := 1) (.slice a3 hi.length c3) (by omega)
      have hz1 := hy1.other (c := w.heap.size + 2) (i := 1) (.slice a3 hi.length c3) (by omega)
      have hz2 := hy2.set1 (.slice a3 hi.length c3)
      have hz3 := hu.set hy2 (i := 1) (.slice a3 hi.length c3)
      have hz4 : Below w.heap.size w (w2.setCell ⟨w.heap.size + 2, 1, none⟩ (.slice a3 hi.length c3)) := (HBW1.out.trans (hb2.mono HBW1.out.size)).setCell (by show _ ≤ _ + 2; omega) _
      have HZ0 : Hid _ := hz0
      have HZ1 : Hid _ := hz1
      have HZ2 : Hid _ := hz2
      have HZ3 : Hid _ := hz3
      have HZ4 : Hid _ := hz4
      clear hz0 hz1 hz2 hz3 hz4 hy0 hy1 hy2 hu hb2
      go_wp2_with fail
      obtain ⟨w3, hw3⟩ : ∃ w3, w3 = w2.setCell ⟨w.heap.size + 2, 1, none⟩ (.slice a3 hi.length c3) := ⟨_, rfl⟩
      rw [← hw3] at HZ0 HZ1 HZ2 HZ3 HZ4 ⊢
      clear hw3 m0 m1 m2 f0 f1 f2
      obtain ⟨k0, k1, k2⟩ := HZ0.out.cells
      go_region_held_law (fun W' => W'.cell? ⟨w.heap.size, 0, none⟩ = some (.slice a lo.length c) ∧ W'.cell? ⟨w.heap.size, 2, none⟩ = some (.bool false)) (first | go_keep | (constructor <;> ((repeat rw [cell_far (by omega)]); assumption)))
        (first
          | (go_at_call 94; refine (anew_any ((HK1.out.here HZ4.out).here ((Below.refl _ w3).drew))).mono ?_
             rintro _ w4 ⟨u, rfl, hu, hb2⟩
             obtain ⟨a2, c2, rfl, _, _⟩ := hu.at.is
             have HU : Hid _ := hu
             have HB2 : Hid (Below w3.heap.size w3 w4) := ((Below.refl _ w3).drew).trans hb2
             clear hu hb2
             obtain ⟨p0, _, p2⟩ := (HZ0.out.here HB2.out).cells
             obtain ⟨q0, q1, q2⟩ := (HZ2.out.here HB2.out).cells
             obtain ⟨o0, o1, o2⟩ := (HZ2.out.here HB2.out).open))
      have hz1 := ((HZ1.out.here HB2.out).other (c := w.heap.size + 2) (i := 0) (.slice a2 lo.length c2) (by omega)).other (c := w.heap.size + 2) (i := 2) (.bool false) (by omega)
      have hz2 := ((HZ2.out.here HB2.out).set0 (.slice a2 lo.length c2)).set2 (.bool false)
      have hz3 := (HU.out.set (HZ2.out.here HB2.out) (i := 0) (.slice a2 lo.length c2)).set ((HZ2.out.here HB2.out).set0 (.slice a2 lo.length c2)) (i := 2) (.bool false)
      have hz5 := ((HZ3.out.here HB2.out).set (HZ2.out.here HB2.out) (i := 0) (.slice a2 lo.length c2)).set ((HZ2.out.here HB2.out).set0 (.slice a2 lo.length c2)) (i := 2) (.bool false)
      have hz4 : Below w.heap.size w ((w4.setCell ⟨w.heap.size + 2, 0, none⟩ (.slice a2 lo.length c2)).setCell ⟨w.heap.size + 2, 2, none⟩ (.bool false)) := ((HZ4.out.trans (HB2.out.mono HZ4.out.size)).setCell (by show _ ≤ _ + 2; omega) _).setCell (by show _ ≤ _ + 2; omega) _
      have HAP : Hid (∀ b, (Value.slice a3 hi.length c3).ownBlock = some b → (Value.slice a2 lo.length c2).ownBlock ≠ some b) := NewKey.apart HZ3.out HU.out (Nat.le_refl _)
      obtain ⟨w5, hw5⟩ : ∃ w5, w5 = (w4.setCell ⟨w.heap.size + 2, 0, none⟩ (.slice a2 lo.length c2)).setCell ⟨w.heap.size + 2, 2, none⟩ (.bool false) := ⟨_, rfl⟩
      rw [← hw5] at hz1 hz2 hz3 hz4 hz5 ⊢
      have HY1 : Hid _ := hz1
      have HY3 : Hid _ := hz3
      have HY4 : Hid _ := hz4
      have HY5 : Hid _ := hz5
      clear hw5 k0 k1 k2 p0 p2 q0 q1 q2 o0 o1 o2
      obtain ⟨m0, m1, m2⟩ := hz2.cells
      obtain ⟨r0, r1, r2⟩ := hz1.cells
      obtain ⟨g0, g1, g2⟩ := hz1.open
      clear hz1 hz2 hz3 hz4 hz5
      go_wp2
      refine bodyPost_ret (ret_box rfl rfl (put3_box HY1.out)) rfl ⟨_, rfl, ?_, put3_below HY4.out (by omega) _ _ _⟩
      rw [HF.out]
      exact ⟨_, _, rfl, (HY3.out.mono HZ4.out.size).put3 HY1.out _ _ _, (HY5.out.mono HBW1.out.size).put3 HY1.out _ _ _, fun k h1 h2 => HAP.out k h2 h1⟩
end Go.Proofs.Ytpmcpomomagkhaa

/- Keys and ranges below a border. -/
namespace Go.Proofs.Ytpmcpomomagkhaa
open Go.RowKit

/-- A key whose bytes lie below a border. -/
structure KeyIn (B : Nat) (w : World) (v : Value) (ks : Key) : Prop where
  is : ∃ a c, v = .slice a ks.length c ∧ BytesAt B w a ks ∧ ks.length ≤ c ∧ (a = none → c = 0)
  short : ks.length ≤ 140737488355328
theorem KeyIn.at {B : Nat} {w : World} {v : Value} {ks : Key} (h : KeyIn B w v ks) (hB : B ≤ w.heap.size) : KeyAt w v ks := by
  obtain ⟨⟨a, c, rfl, h1, h2⟩, h3⟩ := h
  exact ⟨⟨a, c, rfl, h1.mono hB, h2⟩, h3⟩
theorem KeyAt.in {w : World} {v : Value} {ks : Key} (h : KeyAt w v ks) : KeyIn w.heap.size w v ks := ⟨h.is, h.short⟩
theorem KeyIn.below {B : Nat} {w w' : World} {v : Value} {ks : Key} (h : KeyIn B w v ks) (hb : Below B w w') : KeyIn B w' v ks := by
  obtain ⟨⟨a, c, rfl, h1, h2⟩, h3⟩ := h
  exact ⟨⟨a, c, rfl, h1.below hb, h2⟩, h3⟩
structure RangeIn (B : Nat) (w : World) (v : Value) (r : Rg) : Prop where
  is : ∃ v1 v2, v = .agg #[v1, v2, .bool r.all] ∧ KeyIn B w v1 r.lo ∧ KeyIn B w v2 r.hi
theorem RangeIn.at {B : Nat} {w : World} {v : Value} {r : Rg} (h : RangeIn B w v r) (hB : B ≤ w.heap.size) : RangeAt w v r := by
  obtain ⟨v1, v2, rfl, h1, h2⟩ := h.is
  exact ⟨v1, v2, rfl, h1.at hB, h2.at hB⟩
theorem RangeAt.in {w : World} {v : Value} {r : Rg} (h : RangeAt w v r) : RangeIn w.heap.size w v r := by
  obtain ⟨v1, v2, rfl, h1, h2⟩ := h.is
  exact ⟨v1, v2, rfl, h1.in, h2.in⟩
theorem RangeIn.below {B : Nat} {w w' : World} {v : Value} {r : Rg} (h : RangeIn B w v r) (hb : Below B w w') : RangeIn B w' v r := by
  obtain ⟨v1, v2, rfl, h1, h2⟩ := h.is
  exact ⟨v1, v2, rfl, h1.below hb, h2.below hb⟩
theorem KeyIn.form {B : Nat} {w : World} {v : Value} {ks : Key} (h : KeyIn B w v ks) : ∃ a c, v = .slice a ks.length c := by
  obtain ⟨a, c, h, _⟩ := h.is; exact ⟨a, c, h⟩

theorem KeyIn.mono {B B' : Nat} {w : World} {v : Value} {ks : Key} (h : KeyIn B w v ks) (hB : B ≤ B') : KeyIn B' w v ks := by
  obtain ⟨⟨a, c, rfl, h1, h2⟩, h3⟩ := h
  exact ⟨⟨a, c, rfl, h1.mono hB, h2⟩, h3⟩
end Go.Proofs.Ytpmcpomomagkhaa

/- Meet, Inside, Minus, Next, Between. -/
namespace Go.Proofs.Ytpmcpomomagkhaa
open Go.RowKit

theorem meet0_lo {a b : Rg} (h : a.lo < b.lo) : (Rg.meet0 a b).lo = b.lo := by simp [Rg.meet0, h]
theorem meet0_lo' {a b : Rg} (h : ¬ a.lo < b.lo) : (Rg.meet0 a b).lo = a.lo := by simp [Rg.meet0, h]

theorem NewRange.put3 {base base' : Nat} {w : World} {v : Value} {r : Rg} {b : Nat} {x y z : Value} (h : NewRange base w v r) (hB : Box w b x y z) (hb : base' ≤ base) (x' y' z' : Value) : NewRange base' (put3 w b x' y' z') v r := by
  obtain ⟨v1, v2, rfl, h1, h2, h3⟩ := h.is
  exact ⟨v1, v2, rfl, (h1.mono hb).put3 hB _ _ _, (h2.mono hb).put3 hB _ _ _, h3⟩
/-- A new range's value, its keys slices. -/
theorem NewRange.slices {base : Nat} {w : World} {v : Value} {r : Rg} (h : NewRange base w v r) : ∃ a1 c1 a2 c2, v = .agg #[.slice a1 r.lo.length c1, .slice a2 r.hi.length c2, .bool r.all] := by
  obtain ⟨v1, v2, rfl, h1, h2, _⟩ := h.is
  obtain ⟨a1, c1, rfl, _⟩ := h1.at.is
  obtain ⟨a2, c2, rfl, _⟩ := h2.at.is
  exact ⟨a1, c1, a2, c2, rfl⟩
theorem KeyIn.later {B : Nat} {w W : World} {v : Value} {k : Key} (h : KeyIn w.heap.size w v k) (hB : B = w.heap.size) (hb : Below B w W) : KeyAt W v k := by
  subst hB
  exact (h.below hb).at hb.size

set_option maxHeartbeats 1600000 in
set_option maxRecDepth 100000 in
theorem meet_any {w : World} {v u : Value} {r o : Rg} (h : RangeAt w v r) (hu : RangeAt w u o) :
    Calls Try.prog 71 #[v, u] w fun e w' => ∃ v', e = .returned v' ∧ NewRange w.heap.size w' v' (r.meet o) ∧ Below w.heap.size w w' := by
  obtain ⟨v1, v2, rfl, h1, h2⟩ := h.in.is
  obtain ⟨u1, u2, rfl, h3, h4⟩ := hu.in.is
  obtain ⟨a1, c1, rfl⟩ := h1.form
  obtain ⟨a2, c2, rfl⟩ := h2.form
  obtain ⟨a3, c3, rfl⟩ := h3.form
  obtain ⟨a4, c4, rfl⟩ := h4.form
  have HK1 : Hid (KeyIn w.heap.size w (.slice a1 r.lo.length c1) r.lo) := h1
  have HK2 : Hid (KeyIn w.heap.size w (.slice a2 r.hi.length c2) r.hi) := h2
  have HK3 : Hid (KeyIn w.heap.size w (.slice a3 o.lo.length c3) o.lo) := h3
  have HK4 : Hid (KeyIn w.heap.size w (.slice a4 o.hi.length c4) o.hi) := h4
  clear h hu h1 h2 h3 h4
  obtain ⟨W, hW⟩ : ∃ W, W = (((w.alloc (.cells #[.slice a1 r.lo.length c1, .slice a2 r.hi.length c2, .bool r.all] 102)).alloc (.cells #[.slice a3 o.lo.length c3, .slice a4 o.hi.length c4, .bool o.all] 102)).alloc (.cells #[.slice none 0 0, .slice none 0 0, .bool false] 102)).alloc (.cells #[.slice a1 r.lo.length c1, .slice a2 r.hi.length c2, .bool r.all] 102) := ⟨_, rfl⟩
  have HBW : Hid (Below w.heap.size w W) := by rw [hW]; exact (((below_new w _).alloc (by simp) _).alloc (by simp; omega) _).alloc (by simp; omega) _
  have hx0 : Box W w.heap.size (.slice a1 r.lo.length c1) (.slice a2 r.hi.length c2) (.bool r.all) := by rw [hW]; exact (((Box.new w _ _ _).alloc _).alloc _).alloc _
  have hx1 : Box W (w.heap.size + 1) (.slice a3 o.lo.length c3) (.slice a4 o.hi.length c4) (.bool o.all) := by
    rw [hW]
    have := ((Box.new (w.alloc (.cells #[.slice a1 r.lo.length c1, .slice a2 r.hi.length c2, .bool r.all] 102)) (.slice a3 o.lo.length c3) (.slice a4 o.hi.length c4) (.bool o.all)).alloc (.cells #[.slice none 0 0, .slice none 0 0, .bool false] 102)).alloc (.cells #[.slice a1 r.lo.length c1, .slice a2 r.hi.length c2, .bool r.all] 102)
    simpa using this
  have hx2 : Box W (w.heap.size + 2) (.slice none 0 0) (.slice none 0 0) (.bool false) := by
    rw [hW]
    have := (Box.new ((w.alloc (.cells #[.slice a1 r.lo.length c1, .slice a2 r.hi.length c2, .bool r.all] 102)).alloc (.cells #[.slice a3 o.lo.length c3, .slice a4 o.hi.length c4, .bool o.all] 102)) (.slice none 0 0) (.slice none 0 0) (.bool false)).alloc (.cells #[.slice a1 r.lo.length c1, .slice a2 r.hi.length c2, .bool r.all] 102)
    simpa using this
  have hx3 : Box W (w.heap.size + 3) (.slice a1 r.lo.length c1) (.slice a2 r.hi.length c2) (.bool r.all) := by
    rw [hW]
    have := Box.new (((w.alloc (.cells #[.slice a1 r.lo.length c1, .slice a2 r.hi.length c2, .bool r.all] 102)).alloc (.cells #[.slice a3 o.lo.length c3, .slice a4 o.hi.length c4, .bool o.all] 102)).alloc (.cells #[.slice none 0 0, .slice none 0 0, .bool false] 102)) (.slice a1 r.lo.length c1) (.slice a2 r.hi.length c2) (.bool r.all)
    simpa using this
  have HCO := compare_key ((HK1.out.at (Nat.le_refl _)).here HBW.out) ((HK3.out.at (Nat.le_refl _)).here HBW.out)
  have HX0 : Hid _ := hx0
  have HX1 : Hid _ := hx1
  have HX2 : Hid _ := hx2
  have HX3 : Hid _ := hx3
  obtain ⟨k0, k1, k2⟩ := hx0.cells
  obtain ⟨m0, m1, m2⟩ := hx1.cells
  clear hx0 hx1 hx2 hx3
  go_enter Try.func71, Try.ntmps71
  go_upto_region 2 with fail
  rw [← hW]
  clear hW
  go_wp2_with fail
  refine HCO.mono ?_
  rintro e _ ⟨rfl, q, rfl⟩
  clear HCO
  obtain ⟨W1, hW1⟩ : ∃ W1, W1 = W.drewN q := ⟨_, rfl⟩
  rw [← hW1]
  have hbW : Below W.heap.size W W1 := by rw [hW1]; exact below_draws (Below.refl _ _) q
  have HB1 : Hid (Below w.heap.size w W1) := HBW.out.trans (hbW.mono HBW.out.size)
  have hx0 := HX0.out.here hbW
  have hx1 := HX1.out.here hbW
  have hx2 := HX2.out.here hbW
  have hx3 := HX3.out.here hbW
  clear hW1 hbW k0 k1 k2 m0 m1 m2
  obtain ⟨k0, k1, k2⟩ := hx0.cells
  obtain ⟨m0, m1, m2⟩ := hx1.cells
  obtain ⟨p0, p1, p2⟩ := hx3.cells
  obtain ⟨f0, f1, f2⟩ := hx3.open
  have HY2 : Hid (Box W1 (w.heap.size + 2) (.slice none 0 0) (.slice none 0 0) (.bool false)) := hx2
  by_cases hlt : r.lo < o.lo
  case' pos =>
    have hz : cmpK r.lo o.lo < 0 := cmpK_lt.2 hlt
    have HKL : Hid (KeyIn w.heap.size w (.slice a3 o.lo.length c3) (Rg.meet0 r o).lo) := by rw [meet0_lo hlt]; exact HK3.out
    go_upto_region 4 with fail
    obtain ⟨W2, hW2⟩ : ∃ W2, W2 = W1.setCell ⟨w.heap.size + 3, 0, none⟩ (.slice a3 o.lo.length c3) := ⟨_, rfl⟩
    rw [← hW2]
    have HB2 : Hid (Below w.heap.size w W2) := by rw [hW2]; exact HB1.out.setCell (by show _ ≤ _ + 3; omega) _
    have hy0 : Box W2 w.heap.size (.slice a1 r.lo.length c1) (.slice a2 r.hi.length c2) (.bool r.all) := by rw [hW2]; exact hx0.other _ (by omega)
    have hy1 : Box W2 (w.heap.size + 1) (.slice a3 o.lo.length c3) (.slice a4 o.hi.length c4) (.bool o.all) := by rw [hW2]; exact hx1.other _ (by omega)
    have hy2 : Box W2 (w.heap.size + 2) (.slice none 0 0) (.slice none 0 0) (.bool false) := by rw [hW2]; exact hx2.other _ (by omega)
    have hy3 : Box W2 (w.heap.size + 3) (.slice a3 o.lo.length c3) (.slice a2 r.hi.length c2) (.bool r.all) := by rw [hW2]; exact hx3.set0 _
  case' neg =>
    have hz : ¬ cmpK r.lo o.lo < 0 := fun h => hlt (cmpK_lt.1 h)
    have HKL : Hid (KeyIn w.heap.size w (.slice a1 r.lo.length c1) (Rg.meet0 r o).lo) := by rw [meet0_lo' hlt]; exact HK1.out
    go_upto_region 4 with fail
    obtain ⟨W2, hW2⟩ : ∃ W2, W2 = W1 := ⟨_, rfl⟩
    rw [← hW2] at hx0 hx1 hx2 hx3 HB1 ⊢
    have HB2 : Hid (Below w.heap.size w W2) := HB1.out
    have hy0 := hx0
    have hy1 := hx1
    have hy2 := hx2
    have hy3 := hx3
  all_goals
    clear hW2 hz hx0 hx1 hx2 hx3 k0 k1 k2 m0 m1 m2 p0 p1 p2 f0 f1 f2 HY2
    have HY0 : Hid _ := hy0
    have HY2 : Hid _ := hy2
    have HY3 : Hid _ := hy3
    obtain ⟨k0, k1, k2⟩ := hy0.cells
    obtain ⟨m0, m1, m2⟩ := hy1.cells
    obtain ⟨p0, p1, p2⟩ := hy3.cells
    obtain ⟨f0, f1, f2⟩ := hy3.open
    clear hy0 hy1 hy2 hy3
    cases ho : o.all with
    | true =>
      rw [ho] at m2
      have hall : (Rg.meet0 r o).all = r.all := by simp [Rg.meet0, ho]
      have hkh : KeyIn w.heap.size w (.slice a2 r.hi.length c2) (Rg.meet0 r o).hi := by simpa [Rg.meet0, ho] using HK2.out
      go_wp2_with fail
      obtain ⟨W3, hW3⟩ : ∃ W3, W3 = W2 := ⟨_, rfl⟩
      rw [← hW3] at HB2 HY2 ⊢
      have HB3 : Hid (Below w.heap.size w W3) := HB2.out
      have HZ2 : Hid (Box W3 (w.heap.size + 2) (.slice none 0 0) (.slice none 0 0) (.bool false)) := HY2.out
      clear hW3 k0 k1 k2 m0 m1 m2 p0 p1 p2 f0 f1 f2
      refine (form_any (r := Rg.meet0 r o) ⟨_, _, by rw [hall], HKL.out.later rfl HB3.out, hkh.later rfl HB3.out⟩).mono ?_
      rintro e w4 ⟨v', rfl, hnew, hb4⟩
      obtain ⟨b1, d1, b2, d2, rfl⟩ := hnew.slices
      have HNEW : Hid _ := hnew
      have HB4 : Hid (Below w.heap.size w w4) := HB3.out.trans (hb4.mono HB3.out.size)
      have HZ4 : Hid (Box w4 (w.heap.size + 2) (.slice none 0 0) (.slice none 0 0) (.bool false)) := HZ2.out.here hb4
      obtain ⟨g0, g1, g2⟩ := HZ4.out.cells
      obtain ⟨j0, j1, j2⟩ := HZ4.out.open
      clear hnew hb4 hall hkh
      go_wp2
      exact bodyPost_ret (ret_box rfl rfl (put3_box HZ4.out)) rfl ⟨_, rfl, HNEW.out.put3 HZ4.out HB3.out.size _ _ _, put3_below HB4.out (by omega) _ _ _⟩
    | false =>
      cases hr : r.all with
      | true =>
        rw [ho] at m2
        rw [hr] at k2 p2
        have hall : (Rg.meet0 r o).all = false := by simp [Rg.meet0, ho]
        have hkh : KeyIn w.heap.size w (.slice a4 o.hi.length c4) (Rg.meet0 r o).hi := by simpa [Rg.meet0, ho, hr] using HK4.out
        go_wp2_with fail
        obtain ⟨W3, hW3⟩ : ∃ W3, W3 = (W2.setCell ⟨w.heap.size + 3, 1, none⟩ (.slice a4 o.hi.length c4)).setCell ⟨w.heap.size + 3, 2, none⟩ (.bool false) := ⟨_, rfl⟩
        rw [← hW3]
        have HB3 : Hid (Below w.heap.size w W3) := by rw [hW3]; exact (HB2.out.setCell (by show _ ≤ _ + 3; omega) _).setCell (by show _ ≤ _ + 3; omega) _
        have HZ2 : Hid (Box W3 (w.heap.size + 2) (.slice none 0 0) (.slice none 0 0) (.bool false)) := by rw [hW3]; exact (HY2.out.other _ (by omega)).other _ (by omega)
        clear hW3 k0 k1 k2 m0 m1 m2 p0 p1 p2 f0 f1 f2
        refine (form_any (r := Rg.meet0 r o) ⟨_, _, by rw [hall], HKL.out.later rfl HB3.out, hkh.later rfl HB3.out⟩).mono ?_
        rintro e w4 ⟨v', rfl, hnew, hb4⟩
        obtain ⟨b1, d1, b2, d2, rfl⟩ := hnew.slices
        have HNEW : Hid _ := hnew
        have HB4 : Hid (Below w.heap.size w w4) := HB3.out.trans (hb4.mono HB3.out.size)
        have HZ4 : Hid (Box w4 (w.heap.size + 2) (.slice none 0 0) (.slice none 0 0) (.bool false)) := HZ2.out.here hb4
        obtain ⟨g0, g1, g2⟩ := HZ4.out.cells
        obtain ⟨j0, j1, j2⟩ := HZ4.out.open
        clear hnew hb4 hall hkh
        go_wp2
        exact bodyPost_ret (ret_box rfl rfl (put3_box HZ4.out)) rfl ⟨_, rfl, HNEW.out.put3 HZ4.out HB3.out.size _ _ _, put3_below HB4.out (by omega) _ _ _⟩
      | false =>
        rw [ho] at m2
        rw [hr] at k2 p2
        have HCO := compare_key (HK4.out.later rfl HB2.out) (HK2.out.later rfl HB2.out)
        have hall : (Rg.meet0 r o).all = false := by simp [Rg.meet0, ho]
        go_wp2_with fail
        refine HCO.mono ?_
        rintro e _ ⟨rfl, q2, rfl⟩
        clear HCO
        by_cases hlh : o.hi < r.hi
        · have hz2 : cmpK o.hi r.hi < 0 := cmpK_lt.2 hlh
          have hkh : KeyIn w.heap.size w (.slice a4 o.hi.length c4) (Rg.meet0 r o).hi := by simpa [Rg.meet0, ho, hr, hlh] using HK4.out
          go_wp2_with fail
          obtain ⟨W3, hW3⟩ : ∃ W3, W3 = ((W2.drewN q2).setCell ⟨w.heap.size + 3, 1, none⟩ (.slice a4 o.hi.length c4)).setCell ⟨w.heap.size + 3, 2, none⟩ (.bool false) := ⟨_, rfl⟩
          rw [← hW3]
          have HB3 : Hid (Below w.heap.size w W3) := by rw [hW3]; exact ((below_draws HB2.out q2).setCell (by show _ ≤ _ + 3; omega) _).setCell (by show _ ≤ _ + 3; omega) _
          have HZ2 : Hid (Box W3 (w.heap.size + 2) (.slice none 0 0) (.slice none 0 0) (.bool false)) := by rw [hW3]; exact (Box.other (w := W2.drewN q2) ⟨HY2.out.row⟩ _ (by omega)).other _ (by omega)
          clear hW3 k0 k1 k2 m0 m1 m2 p0 p1 p2 f0 f1 f2
          refine (form_any (r := Rg.meet0 r o) ⟨_, _, by rw [hall], HKL.out.later rfl HB3.out, hkh.later rfl HB3.out⟩).mono ?_
          rintro e w4 ⟨v', rfl, hnew, hb4⟩
          obtain ⟨b1, d1, b2, d2, rfl⟩ := hnew.slices
          have HNEW : Hid _ := hnew
          have HB4 : Hid (Below w.heap.size w w4) := HB3.out.trans (hb4.mono HB3.out.size)
          have HZ4 : Hid (Box w4 (w.heap.size + 2) (.slice none 0 0) (.slice none 0 0) (.bool false)) := HZ2.out.here hb4
          obtain ⟨g0, g1, g2⟩ := HZ4.out.cells
          obtain ⟨j0, j1, j2⟩ := HZ4.out.open
          clear hnew hb4 hall hkh
          go_wp2
          exact bodyPost_ret (ret_box rfl rfl (put3_box HZ4.out)) rfl ⟨_, rfl, HNEW.out.put3 HZ4.out HB3.out.size _ _ _, put3_below HB4.out (by omega) _ _ _⟩
        · have hz2 : ¬ cmpK o.hi r.hi < 0 := fun h => hlh (cmpK_lt.1 h)
          have hkh : KeyIn w.heap.size w (.slice a2 r.hi.length c2) (Rg.meet0 r o).hi := by simpa [Rg.meet0, ho, hr, hlh] using HK2.out
          go_wp2_with fail
          obtain ⟨W3, hW3⟩ : ∃ W3, W3 = W2.drewN q2 := ⟨_, rfl⟩
          rw [← hW3]
          have HB3 : Hid (Below w.heap.size w W3) := by rw [hW3]; exact below_draws HB2.out q2
          have HZ2 : Hid (Box W3 (w.heap.size + 2) (.slice none 0 0) (.slice none 0 0) (.bool false)) := by rw [hW3]; exact ⟨HY2.out.row⟩
          clear hW3 k0 k1 k2 m0 m1 m2 p0 p1 p2 f0 f1 f2
          refine (form_any (r := Rg.meet0 r o) ⟨_, _, by rw [hall], HKL.out.later rfl HB3.out, hkh.later rfl HB3.out⟩).mono ?_
          rintro e w4 ⟨v', rfl, hnew, hb4⟩
          obtain ⟨b1, d1, b2, d2, rfl⟩ := hnew.slices
          have HNEW : Hid _ := hnew
          have HB4 : Hid (Below w.heap.size w w4) := HB3.out.trans (hb4.mono HB3.out.size)
          have HZ4 : Hid (Box w4 (w.heap.size + 2) (.slice none 0 0) (.slice none 0 0) (.bool false)) := HZ2.out.here hb4
          obtain ⟨g0, g1, g2⟩ := HZ4.out.cells
          obtain ⟨j0, j1, j2⟩ := HZ4.out.open
          clear hnew hb4 hall hkh
          go_wp2
          exact bodyPost_ret (ret_box rfl rfl (put3_box HZ4.out)) rfl ⟨_, rfl, HNEW.out.put3 HZ4.out HB3.out.size _ _ _, put3_below HB4.out (by omega) _ _ _⟩
end Go.Proofs.Ytpmcpomomagkhaa

/- Next. -/
namespace Go.Proofs.Ytpmcpomomagkhaa
open Go.RowKit

theorem madeBytes (n : Nat) : (madeCells (Value.cells (.int .u8 0)) (n * 1)).toList = List.replicate n (.int .u8 0) := by
  simp only [madeCells, Value.cells, Nat.mul_one]
  apply List.ext_getElem
  · simp
  · intro i h1 h2
    simp [Nat.mod_one]
theorem own_full {w : World} {base g n : Nat} {xs : List Value} (h : w.ownsRow base 5 1 (.slice (some ⟨g, 0, none⟩) n n) n xs) : w.heap[g]? = some (.cells xs.toArray 5 (0, 0)) := by
  obtain ⟨hl, hr⟩ := h
  rcases hr with ⟨e, _⟩ | ⟨g', cap, cur, e, _, hg, _, _, hs, ht⟩
  · cases e
  · cases e
    rw [hg, ← ht, List.take_of_length_le (by simp [hs])]
theorem copy_src {B : Nat} {w : World} {a : Option Addr} {bs : List UInt8} (hb : BytesAt B w a bs) (g o : Nat) :
    0 < (bs.map encB).length → some (⟨g, o, none⟩ : Addr) = some ⟨g, o, none⟩ ∧ ∃ ad, a = some ad ∧ ∀ (j : Nat) (v : Value), (bs.map encB)[j]? = some v → w.cell? (ad.add j) = some v := by
  intro hpos
  refine ⟨rfl, ?_⟩
  have h0 : 0 < bs.length := by simpa using hpos
  obtain ⟨c, hc⟩ : ∃ c, bs[0]? = some c := ⟨bs[0], List.getElem?_eq_getElem h0⟩
  obtain ⟨g, off, rfl, _, _⟩ := hb 0 c hc
  refine ⟨_, rfl, fun j v hv => ?_⟩
  rw [List.getElem?_map] at hv
  cases e : bs[j]? with
  | none => rw [e] at hv; cases hv
  | some b =>
    rw [e] at hv
    cases hv
    obtain ⟨g', off', e1, _, hcell⟩ := hb j b e
    cases e1
    rw [add_at]
    exact hcell
theorem oneB (bs : List UInt8) : ∀ v ∈ bs.map encB, v.oneCell' = true := fun v hv => by
  obtain ⟨b, _, rfl⟩ := List.mem_map.1 hv
  rfl
theorem own_block {w : World} {base g n : Nat} {xs : List Value} (h : w.heap[g]? = some (.cells xs.toArray 5 (0, 0))) (hl : xs.length = n) (hb : base ≤ g) (hm : n ≤ maxLen) : w.ownsRow base 5 1 (.slice (some ⟨g, 0, none⟩) n n) n xs :=
  ⟨by rw [hl, Nat.mul_one], .inr ⟨g, n, xs.toArray, rfl, hb, h, Nat.le_refl _, hm, by simp [hl], by simp [← hl]⟩⟩

end Go.Proofs.Ytpmcpomomagkhaa
