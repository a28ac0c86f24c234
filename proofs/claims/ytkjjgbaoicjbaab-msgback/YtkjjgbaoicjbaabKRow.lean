/- Rows of keys of new memory; neighbours that are one are left out (slices.CompactFunc); where a key stands (slices.BinarySearchFunc). -/
import Derived.Test.YtkjjgbaoicjbaabOpens
namespace Go.Proofs.Ytkjjgbaoicjbaab
open Go.RowKit

/-- A key in a row: its value, and what it is. -/
structure Kc where
  v : Value
  k : Key
  deriving Inhabited
def keysOf (L : List Kc) : List Key := L.map Kc.k
theorem keysOf_get {L : List Kc} {i : Nat} {e : Kc} (h : L[i]? = some e) : (keysOf L)[i]? = some e.k := by simp [keysOf, h]
theorem keysOf_length (L : List Kc) : (keysOf L).length = L.length := by simp [keysOf]
/-- A block whose first cells are these keys. -/
structure RowK (w : World) (g c : Nat) (L : List Kc) : Prop where
  is : ∃ cur : Array Value, w.heap[g]? = some (.cells cur 23 (0, 0)) ∧ cur.size = c ∧ cur.toList.take L.length = L.map Kc.v
theorem RowK.lt {w : World} {g c : Nat} {L : List Kc} (h : RowK w g c L) : g < w.heap.size := by
  obtain ⟨cur, h1, _⟩ := h.is; exact (Array.getElem?_eq_some_iff.1 h1).1
theorem RowK.fits {w : World} {g c : Nat} {L : List Kc} (h : RowK w g c L) : L.length ≤ c := by
  obtain ⟨cur, _, h2, h3⟩ := h.is
  have := congrArg List.length h3
  rw [List.length_take] at this
  simp at this
  omega
theorem RowK.cell {w : World} {g c i : Nat} {L : List Kc} {e : Kc} (h : RowK w g c L) (hi : L[i]? = some e) : w.cell? ⟨g, i, none⟩ = some e.v := by
  obtain ⟨cur, h1, _, h3⟩ := h.is
  have hl := (List.getElem?_eq_some_iff.1 hi).1
  have : (L.map Kc.v)[i]? = some e.v := by simp [hi]
  rw [← h3, List.getElem?_take, if_pos hl, Array.getElem?_toList] at this
  rw [row_cell h1]; exact this
theorem RowK.some {w : World} {g c i : Nat} {L : List Kc} (h : RowK w g c L) (hi : i < c) : (w.cell? ⟨g, i, none⟩).isSome = true := by
  obtain ⟨cur, h1, h2, _⟩ := h.is
  rw [row_cell h1, Array.getElem?_eq_getElem (by omega)]; rfl
theorem RowK.open {w : World} {g c : Nat} {L : List Kc} (h : RowK w g c L) (i : Nat) : w.frozen? ⟨g, i, none⟩ = false := by
  obtain ⟨cur, h1, _⟩ := h.is; exact row_frozen h1 i
theorem RowK.block {w w' : World} {g c : Nat} {L : List Kc} (h : RowK w g c L) (hb : w'.heap[g]? = w.heap[g]?) : RowK w' g c L := by
  obtain ⟨cur, h1, h2⟩ := h.is; exact ⟨cur, by rw [hb]; exact h1, h2⟩
theorem RowK.here {w w' : World} {g c : Nat} {L : List Kc} (h : RowK w g c L) (hb : Below w.heap.size w w') : RowK w' g c L := h.block (hb.block g h.lt)
theorem RowK.draws {w : World} {g c : Nat} {L : List Kc} (h : RowK w g c L) (n : Nat) : RowK (w.drewN n) g c L := h.block rfl
theorem RowK.set {w : World} {g c i : Nat} {L : List Kc} (h : RowK w g c L) (e : Kc) (_hi : i < L.length) : RowK (w.setCell ⟨g, i, none⟩ e.v) g c (L.set i e) := by
  have hf := h.fits
  obtain ⟨cur, h1, h2, h3⟩ := h.is
  refine ⟨_, heap_set_same _ h1, by simpa using h2, ?_⟩
  rw [List.length_set, List.map_set, ← h3]
  simp [List.take_set]
theorem RowK.take {w : World} {g c : Nat} {L : List Kc} (h : RowK w g c L) (n : Nat) : RowK w g c (L.take n) := by
  obtain ⟨cur, h1, h2, h3⟩ := h.is
  refine ⟨cur, h1, h2, ?_⟩
  rw [List.length_take, List.map_take, ← h3, List.take_take]
theorem RowK.keep {base i : Nat} {w : World} {g c : Nat} {L : List Kc} (h : RowK w g c L) (hB : base ≤ g) (v : Value) : Keep 23 base w (w.setCell ⟨g, i, none⟩ v) := by
  obtain ⟨cur, h1, _⟩ := h.is
  exact keep_set h1 hB v
theorem Keep.draws {T B : Nat} {a w : World} (h : Keep T B a w) (n : Nat) : Keep T B a (w.drewN n) := ⟨below_draws h.low n, h.typ⟩
theorem KeyK.draws {base : Nat} {w : World} {v : Value} {k : Key} (h : KeyK base w v k) (n : Nat) : KeyK base (w.drewN n) v k := by
  rcases h.is with h | h
  · exact ⟨.inl (h.below (below_draws (Below.refl _ _) n))⟩
  · exact ⟨.inr (h.here (below_draws (Below.refl _ _) n))⟩
theorem KeyK.one {base : Nat} {w : World} {v : Value} {k : Key} (h : KeyK base w v k) : ∃ a c, v = .slice a k.length c := by
  rcases h.is with h | h
  · exact h.form
  · exact h.at.in.form

set_option maxRecDepth 100000 in
theorem eqFn_any {w : World} {v u : Value} {x y : Key} (hv : KeyAt w v x) (hu : KeyAt w u y) :
    Calls Try.prog 39 #[v, u] w fun e w' => e = .returned (.bool (decide (x = y))) ∧ ∃ q, w' = w.drewN q := by
  have HC := compare_key hv hu
  have HD : Hid ((cmpK x y == 0) = decide (x = y)) := by rw [Hid, Bool.eq_iff_iff]; simp [cmpK_eq]
  clear hv hu
  go_enter Try.func39, Try.ntmps39
  go_wp2_with (go_at_call 37; refine HC.mono ?_; rintro e w' ⟨rfl, q, rfl⟩)
  go_ret
  exact ⟨by rw [HD.out]; rfl, q, rfl⟩

theorem wrapk_nat (j : Nat) (h : j ≤ 9223372036854775807) : IntKind.i64.wrap (j : Int) = (j : Int) := by
  simp [IntKind.wrap, IntKind.bits, IntKind.signed]; omega
/-- Cells that are written from a place on. -/
theorem setCells_row {w : World} {g : Nat} {cur : Array Value} {t : TypeId} (h : w.heap[g]? = some (.cells cur t (0, 0))) : ∀ (vs : List Value) (o : Nat), ∃ cur' : Array Value, (w.setCells g o vs).heap[g]? = some (.cells cur' t (0, 0)) ∧ cur'.size = cur.size ∧ ∀ j, j < o → cur'[j]? = cur[j]? := by
  intro vs
  induction vs generalizing w cur with
  | nil => intro o; exact ⟨cur, h, rfl, fun _ _ => rfl⟩
  | cons v vs ih =>
    intro o
    obtain ⟨cur', h1, h2, h3⟩ := ih (heap_set_same (i := o) v h) (o + 1)
    refine ⟨cur', h1, by rw [h2]; simp, fun j hj => ?_⟩
    rw [h3 j (by omega), Array.getElem?_setIfInBounds, if_neg (by omega)]
theorem setCells_other {g k : Nat} (hk : k ≠ g) : ∀ (vs : List Value) (o : Nat) (w : World), (w.setCells g o vs).heap[k]? = w.heap[k]?
  | [], _, _ => rfl
  | v :: vs, o, w => by
    show ((w.setCell ⟨g, o, none⟩ v).setCells g (o + 1) vs).heap[k]? = _
    rw [setCells_other hk vs (o + 1), heap_set_other v hk]
theorem setCells_below {B g : Nat} {a : World} (hb : B ≤ g) : ∀ (vs : List Value) (o : Nat) (w : World), Below B a w → Below B a (w.setCells g o vs)
  | [], _, _, h => h
  | _ :: vs, o, _, h => setCells_below hb vs (o + 1) _ (h.setCell hb _)

theorem RowK.clear {base o : Nat} {w : World} {g c : Nat} {L : List Kc} (h : RowK w g c L) (ho : L.length ≤ o) (hB : base ≤ g) (vs : List Value) : RowK (w.setCells g o vs) g c L ∧ Keep 23 base w (w.setCells g o vs) := by
  have hf := h.fits
  obtain ⟨cur, h1, h2, h3⟩ := h.is
  obtain ⟨cur', g1, g2, g3⟩ := setCells_row h1 vs o
  refine ⟨⟨cur', g1, by rw [g2, h2], ?_⟩, setCells_below hB vs o w (Below.refl _ _), fun k cu t z ht hk => ?_⟩
  · rw [← h3]
    apply List.ext_getElem?
    intro j
    rw [List.getElem?_take, List.getElem?_take]
    by_cases hj : j < L.length
    · rw [if_pos hj, if_pos hj, Array.getElem?_toList, Array.getElem?_toList, g3 j (by omega)]
    · rw [if_neg hj, if_neg hj]
  · rw [setCells_other _ vs o w]
    · exact hk
    · rintro rfl
      rw [h1] at hk
      simp only [Option.some.injEq, Obj.cells.injEq] at hk
      exact ht hk.2.1.symm
theorem zeroBytes (w : World) : (zeroValue 23).run Try.prog w = .ok (.slice none 0 0) w := by kernel_rfl
/-- What CompactFunc gives. -/
structure CompPost (base : Nat) (w : World) (g c : Nat) (S : List Kc) (r : Ending) (w' : World) : Prop where
  is : ∃ D : List Kc, r = .returned (.slice (some ⟨g, 0, none⟩) D.length c) ∧ RowK w' g c D ∧ (keysOf D).Pairwise (· < ·) ∧ (∀ x ∈ D, x ∈ S) ∧ (∀ x ∈ S, ∃ y ∈ D, y.k = x.k) ∧ D.length ≤ S.length ∧ Keep 23 base w w'
/-- How far it has come: the first m keys of S are told by D, and the last of them is its last. -/
structure CompIn (S D : List Kc) (m : Nat) : Prop where
  rise : (keysOf D).Pairwise (· < ·)
  sub : ∀ x ∈ D, x ∈ S
  all : ∀ x ∈ S.take m, ∃ y ∈ D, y.k = x.k
  last : ∃ (x y : Kc), S[m - 1]? = some x ∧ D.getLast? = some y ∧ y.k = x.k
  pos : 0 < m
theorem CompIn.skip {S D : List Kc} {m : Nat} (h : CompIn S D m) {x y : Kc} (hx : S[m]? = some x) (hy : S[m - 1]? = some y) (he : x.k = y.k) : CompIn S D (m + 1) := by
  obtain ⟨a, b, h1, h2, h3⟩ := h.last
  rw [hy] at h1; cases h1
  refine ⟨h.rise, h.sub, fun z hz => ?_, ⟨x, b, by rw [Nat.add_sub_cancel]; exact hx, h2, by rw [h3, he]⟩, by omega⟩
  rw [List.take_add_one, hx] at hz
  rcases List.mem_append.1 hz with hz | hz
  · exact h.all z hz
  · simp at hz; subst hz
    exact ⟨b, List.mem_of_getLast? h2, by rw [h3, he]⟩
theorem CompIn.more {S D : List Kc} {m : Nat} (hs : (keysOf S).Pairwise (· ≤ ·)) (h : CompIn S D m) {x y : Kc} (hx : S[m]? = some x) (hy : S[m - 1]? = some y) (he : x.k ≠ y.k) : CompIn S (D ++ [x]) (m + 1) := by
  obtain ⟨a, b, h1, h2, h3⟩ := h.last
  rw [hy] at h1; cases h1
  have hp := h.pos
  have hle : y.k ≤ x.k := by
    have hx' := keysOf_get hx
    have hy' := keysOf_get hy
    obtain ⟨l1, e1⟩ := List.getElem?_eq_some_iff.1 hx'
    obtain ⟨l2, e2⟩ := List.getElem?_eq_some_iff.1 hy'
    have := List.pairwise_iff_getElem.1 hs (m - 1) m l2 l1 (by omega)
    rw [e1, e2] at this
    exact this
  refine ⟨?_, fun z hz => ?_, fun z hz => ?_, ⟨x, x, by rw [Nat.add_sub_cancel]; exact hx, by simp, rfl⟩, by omega⟩
  · unfold keysOf
    rw [List.map_append, List.pairwise_append]
    refine ⟨h.rise, by simp, fun p hp q hq => ?_⟩
    simp at hq; subst hq
    obtain ⟨ys, hys⟩ := List.getLast?_eq_some_iff.1 h2
    obtain ⟨z, hz, rfl⟩ := List.mem_map.1 hp
    have hr := h.rise
    rw [hys] at hz hr
    unfold keysOf at hr
    rw [List.map_append, List.pairwise_append] at hr
    rcases List.mem_append.1 hz with hz | hz
    · have := hr.2.2 z.k (List.mem_map_of_mem hz) b.k (by simp)
      grind
    · simp at hz; subst hz; grind
  · rcases List.mem_append.1 hz with hz | hz
    · exact h.sub z hz
    · simp at hz; subst hz; exact List.mem_of_getElem? hx
  · rw [List.take_add_one, hx] at hz
    rcases List.mem_append.1 hz with hz | hz
    · obtain ⟨u, hu, e⟩ := h.all z hz
      exact ⟨u, List.mem_append_left _ hu, e⟩
    · simp at hz; subst hz
      exact ⟨z, List.mem_append_right _ (List.mem_singleton.2 rfl), rfl⟩
theorem CompIn.one {S : List Kc} {x : Kc} (hx : S[0]? = some x) : CompIn S (S.take 1) 1 := by
  have e : S.take 1 = [x] := by rw [List.take_add_one, hx]; rfl
  rw [e]
  refine ⟨by simp [keysOf], fun z hz => ?_, fun z hz => ⟨z, by rw [← e]; exact hz, rfl⟩, ⟨x, x, hx, by simp, rfl⟩, by decide⟩
  simp at hz; subst hz; exact List.mem_of_getElem? hx

set_option maxHeartbeats 3200000 in
set_option maxRecDepth 100000 in
theorem compact_off {base : Nat} {w : World} {g c off : Nat} {S : List Kc} (HO0 : Hid (off = 0)) (hb : base ≤ w.heap.size) (hB : base ≤ g) (hr : RowK w g c S) (hok : ∀ e ∈ S, KeyK base w e.v e.k) (hs : (keysOf S).Pairwise (· ≤ ·)) (hlen : S.length ≤ 140737488355328) :
    Calls Try.prog 38 #[.slice (some ⟨g, off, none⟩) S.length c, .func (.func 39) #[] #[]] w fun r w' => CompPost base w g c S r w' := by
  have hf := hr.fits
  have HR : Hid (RowK w g c S) := hr
  have HOK : Hid (∀ e ∈ S, KeyK base w e.v e.k) := hok
  have HS : Hid ((keysOf S).Pairwise (· ≤ ·)) := hs
  clear hr hok hs
  by_cases h2 : S.length < 2
  · have h2z : (S.length : Int) < 2 := by omega
    have HP : Hid (CompPost base w g c S (.returned (.slice (some ⟨g, off, none⟩) S.length c)) w) := by
      rw [HO0.out]
      refine ⟨S, rfl, HR.out, ?_, fun _ h => h, fun x hx => ⟨x, hx, rfl⟩, Nat.le_refl _, Keep.refl _ _ _⟩
      match S, h2 with
      | [], _ => simp [keysOf]
      | [x], _ => simp [keysOf]
    go_enter Try.func38, Try.ntmps38
    go_wp2
    go_ret
    exact HP.out
  · have h2z : ¬ (S.length : Int) < 2 := by omega
    go_enter Try.func38, Try.ntmps38
    go_wp2_with fail
    go_loopw [5] (fun i wx => ∃ k : Nat, 1 ≤ k ∧ k ≤ S.length ∧ i = .int .i64 (k : Int) ∧ CompIn S (S.take k) k ∧ ∃ q, wx = w.drewN q) (fun i _ => S.length - (intOf i).toNat)
    case atStart => exact ⟨1, Nat.le_refl _, by omega, rfl, CompIn.one (List.getElem?_eq_getElem (by omega)), 0, rfl⟩
    case round =>
      obtain ⟨k, hk1, hkn, rfl, hc, q, rfl⟩ := hrel
      have HC : Hid (CompIn S (S.take k) k) := hc
      clear hc
      by_cases hlt : k < S.length
      · have hz : (k : Int) < (S.length : Int) := by omega
        obtain ⟨j, hjk⟩ : ∃ j, k = j + 1 := ⟨k - 1, by omega⟩
        have hkj : (k : Int) - 1 = (j : Int) := by omega
        obtain ⟨x, hx⟩ : ∃ x, S[k]? = some x := ⟨_, List.getElem?_eq_getElem hlt⟩
        obtain ⟨y, hy⟩ : ∃ y, S[j]? = some y := ⟨_, List.getElem?_eq_getElem (by omega)⟩
        have HX : Hid (S[k]? = some x) := hx
        have HJK : Hid (k = j + 1) := hjk
        have HY : Hid (S[j]? = some y) := hy
        have c1 : w.cell? ⟨g, off + k, none⟩ = some x.v := by rw [HO0.out, Nat.zero_add]; exact HR.out.cell hx
        have c2 : w.cell? ⟨g, off + j, none⟩ = some y.v := by rw [HO0.out, Nat.zero_add]; exact HR.out.cell hy
        have HKX : Hid (KeyK base w x.v x.k) := HOK.out x (List.mem_of_getElem? hx)
        have HKY : Hid (KeyK base w y.v y.k) := HOK.out y (List.mem_of_getElem? hy)
        have hz2 : (j : Int) < (S.length : Int) := by omega
        have hn3 : (0 : Int) < (k : Int) := by omega
        have hsl : S.length ≤ 140737488355328 := by omega
        have hwj := wrapk_nat j (by omega)
        have HKN : Hid (1 ≤ k ∧ k ≤ S.length) := ⟨hk1, hkn⟩
        have HHF : Hid (S.length ≤ c) := hf
        clear hx hy hjk hk1 hkn hf
        go_wp2_with fail
        go_cut [28] (fun s28 wx => s28 = .bool (decide (x.k = y.k)) ∧ ∃ n, wx = (w.drewN q).drewN n)
        case first =>
          go_region_with (first
            | (go_at_call 39; refine (eqFn_any ((HKX.out.at hb).draws _) ((HKY.out.at hb).draws _)).mono ?_; rintro e w' ⟨rfl, q', rfl⟩))
          all_goals
            go_wp2_with fail
            go_meet
            exact ⟨rfl, 1 + q', by simp [World.drewN, Nat.add_assoc]⟩
        case rest =>
          obtain ⟨rfl, nq, rfl⟩ := hcut
          by_cases hxy : x.k = y.k
          · rw [decide_eq_true hxy]
            have HE : Hid (x.k = y.k) := hxy
            have HM : Hid (CompIn S (S.take k) (k + 1)) := HC.out.skip HX.out (by rw [HJK.out, Nat.add_sub_cancel]; exact HY.out) hxy
            obtain ⟨w1, hw1⟩ : ∃ w1, w1 = (w.drewN q).drewN nq := ⟨_, rfl⟩
            have HR1 : Hid (RowK w1 g c S) := by rw [hw1]; exact (HR.out.draws _).draws _
            have HK1 : Hid (Keep 23 base w w1) := by rw [hw1]; exact ((Keep.refl _ _ _).draws _).draws _
            rw [← hw1]
            have hcz : ¬ c = k := by have := HHF.out; omega
            have hcc : (S.length : Int) ≤ (c : Int) := by have := HHF.out; omega
            have hcc2 : S.length ≤ c := HHF.out
            have hkl : (k : Int) ≤ (S.length : Int) := by omega
            have hks : k ≤ S.length := by omega
            clear hxy hw1 c1 c2 HC hwj hz2 hkj hn3
            go_wp2_with fail
            go_loopw [5, 7] (fun a b wx => ∃ (m k2 : Nat) (R : List Kc), a = .int .i64 (m : Int) ∧ b = .int .i64 (k2 : Int) ∧ 1 ≤ k2 ∧ k + k2 ≤ S.length ∧ m < k + k2 ∧ R.length = S.length ∧ (∀ j, k + k2 - 1 ≤ j → R[j]? = S[j]?) ∧ CompIn S (R.take m) (k + k2) ∧ RowK wx g c R ∧ Keep 23 base w wx) (fun _ b _ => S.length - (intOf b).toNat)
            case atStart => exact ⟨k, 1, S, rfl, rfl, Nat.le_refl _, by omega, by omega, rfl, fun _ _ => rfl, HM.out, HR1.out, HK1.out⟩
            case round =>
              obtain ⟨m, k2, R, rfl, rfl, h1k, hkk, hmk, hRl, hRt, hci, hrow, hkp⟩ := hrel
              have HRT : Hid (∀ j, k + k2 - 1 ≤ j → R[j]? = S[j]?) := hRt
              have HCI : Hid (CompIn S (R.take m) (k + k2)) := hci
              have HRO : Hid (RowK wr g c R) := hrow
              have HKP : Hid (Keep 23 base w wr) := hkp
              have HRL : Hid (R.length = S.length) := hRl
              have hbw : base ≤ wr.heap.size := Nat.le_trans hb hkp.low.size
              clear hRt hci hrow hkp hRl
              by_cases hlt2 : k + k2 < S.length
              · have hz3 : (k2 : Int) < (S.length : Int) - (k : Int) := by omega
                have hz3' : k2 < S.length - k := by omega
                have hz3'' : (k2 : Int) < ((S.length - k : Nat) : Int) := by omega
                obtain ⟨i2, hi2⟩ : ∃ i2, k2 = i2 + 1 := ⟨k2 - 1, by omega⟩
                obtain ⟨x2, hx2⟩ : ∃ x, S[k + k2]? = some x := ⟨_, List.getElem?_eq_getElem hlt2⟩
                obtain ⟨y2, hy2⟩ : ∃ y, S[k + i2]? = some y := ⟨_, List.getElem?_eq_getElem (by omega)⟩
                have d1 : wr.cell? ⟨g, off + k + k2, none⟩ = some x2.v := by rw [HO0.out, Nat.zero_add]; exact HRO.out.cell (by rw [HRT.out _ (by omega)]; exact hx2)
                have d2 : wr.cell? ⟨g, off + k + i2, none⟩ = some y2.v := by rw [HO0.out, Nat.zero_add]; exact HRO.out.cell (by rw [HRT.out _ (by omega)]; exact hy2)
                have HX2 : Hid (KeyK base wr x2.v x2.k) := (HOK.out x2 (List.mem_of_getElem? hx2)).keep HKP.out (by decide)
                have HY2 : Hid (KeyK base wr y2.v y2.k) := (HOK.out y2 (List.mem_of_getElem? hy2)).keep HKP.out (by decide)
                have HS2 : Hid (S[k + k2]? = some x2) := hx2
                have HT2 : Hid (S[k + k2 - 1]? = some y2) := by rw [Hid, hi2, show k + (i2 + 1) - 1 = k + i2 by omega]; exact hy2
                have hkj : (k2 : Int) - 1 = (i2 : Int) := by omega
                have hwj := wrapk_nat i2 (by omega)
                have hz4 : (i2 : Int) < ((S.length - k : Nat) : Int) := by omega
                have hz5 : (i2 : Int) < (S.length : Int) - (k : Int) := by omega
                clear hx2 hy2 hi2
                go_wp2_with fail
                go_cut [49] (fun s49 wx => s49 = .bool (!decide (x2.k = y2.k)) ∧ ∃ n, wx = wr.drewN n)
                case first =>
                  go_region_with (first
                    | (go_at_call 39; refine (eqFn_any (((HX2.out.at hbw)).draws 1) (((HY2.out.at hbw)).draws 1)).mono ?_; rintro e w' ⟨rfl, q', rfl⟩))
                  all_goals
                    go_wp2_with fail
                    go_meet
                    exact ⟨rfl, 1 + q', by simp [World.drewN]⟩
                case rest =>
                  obtain ⟨rfl, n2, rfl⟩ := hcut
                  by_cases hxy2 : x2.k = y2.k
                  · rw [decide_eq_true hxy2]
                    have HM2 : Hid (CompIn S (R.take m) (k + k2 + 1)) := HCI.out.skip HS2.out HT2.out hxy2
                    clear hxy2 d1 d2 hkj hwj hz4 hz5
                    go_wp2
                    exact ⟨⟨m, k2 + 1, R, rfl, by go_num, by omega, by omega, by omega, HRL.out, fun j hj => HRT.out j (by omega), HM2.out, HRO.out.draws n2, HKP.out.draws n2⟩, by simp [intOf]; omega⟩
                  · rw [decide_eq_false hxy2]
                    have hmR : m < R.length := by rw [HRL.out]; omega
                    have HM2 : Hid (CompIn S ((R.set m x2).take (m + 1)) (k + k2 + 1)) := by
                      have h := HCI.out.more HS.out HS2.out HT2.out hxy2
                      rw [Hid, List.take_add_one, List.getElem?_set_self hmR, List.take_set_of_le (Nat.le_refl _)]
                      exact h
                    have o1 : wr.frozen? ⟨g, off + m, none⟩ = false := HRO.out.open _
                    obtain ⟨old, hold⟩ : ∃ o, wr.cell? ⟨g, off + m, none⟩ = some o := Option.isSome_iff_exists.1 (by rw [HO0.out, Nat.zero_add]; exact HRO.out.some (by have := HRO.out.fits; omega))
                    have hmz : (m : Int) < (S.length : Int) := by omega
                    have hx1 : x2.v.oneCell' = true := by obtain ⟨_, _, e⟩ := HX2.out.one; rw [e]; rfl
                    obtain ⟨ax, cx, ex⟩ := HX2.out.one
                    have HRS : Hid (RowK ((wr.drewN n2).setCell ⟨g, off + m, none⟩ (.slice ax x2.k.length cx)) g c (R.set m x2)) := by
                      rw [Hid, HO0.out, Nat.zero_add, ← ex]; exact (HRO.out.draws n2).set x2 hmR
                    have HKS : Hid (Keep 23 base w ((wr.drewN n2).setCell ⟨g, off + m, none⟩ (.slice ax x2.k.length cx))) := (HKP.out.draws n2).trans ((HRO.out.draws n2).keep hB _)
                    rw [ex] at d1
                    clear hxy2 d2 hkj hwj hz4 hz5 hx1 ex
                    go_wp2
                    refine ⟨⟨m + 1, k2 + 1, R.set m x2, by go_num, by go_num, by omega, by omega, by omega, by rw [List.length_set, HRL.out], fun j hj => ?_, HM2.out, HRS.out, HKS.out⟩, by simp [intOf]; omega⟩
                    rw [List.getElem?_set_ne (by omega)]
                    exact HRT.out j (by omega)
              · have hz3 : ¬ (k2 : Int) < (S.length : Int) - (k : Int) := by omega
                have hz3' : ¬ k2 < S.length - k := by omega
                have hz3'' : ¬ (k2 : Int) < ((S.length - k : Nat) : Int) := by omega
                have hmz : (m : Int) ≤ (S.length : Int) := by omega
                have hmc : ¬ c = m := by omega
                have hms : m ≤ S.length := by omega
                have HLT : Hid ((R.take m).length = m) := by rw [Hid, List.length_take, HRL.out]; omega
                have hrc := Lib.run_clear_slice (P := Try.prog) wr 61 23 0 (.slice none 0 0) Try.underlying61 zeroBytes rfl rfl g (off + m) (S.length - m) (c - m) (by omega) (fun j hj => by rw [HO0.out, Nat.zero_add]; exact HRO.out.some (by omega)) (fun j hj => HRO.out.open _)
                obtain ⟨hcl1, hcl2⟩ := RowK.clear (o := off + m) (HRO.out.take m) (by rw [HLT.out, HO0.out, Nat.zero_add]; exact Nat.le_refl _) hB (List.replicate (S.length - m) (.slice none 0 0))
                have HP : Hid (CompPost base w g c S (.returned (.slice (some ⟨g, off, none⟩) m c)) (wr.setCells g (off + m) (List.replicate (S.length - m) (.slice none 0 0)))) := by
                  have hc := HCI.out
                  refine ⟨R.take m, by rw [HLT.out, HO0.out], hcl1, hc.rise, hc.sub, fun x hx => hc.all x (by rw [List.take_of_length_le (by omega)]; exact hx), by rw [HLT.out]; omega, HKP.out.trans hcl2⟩
                clear hcl1 hcl2
                go_wp2
                go_ret
                exact HP.out
          · rw [decide_eq_false hxy]
            have HM : Hid (CompIn S (S.take (k + 1)) (k + 1)) := by
              have := HC.out.more HS.out HX.out (by rw [HJK.out, Nat.add_sub_cancel]; exact HY.out) hxy
              rw [Hid, List.take_add_one, HX.out]
              exact this
            clear hxy c1 c2
            go_wp2
            exact ⟨⟨k + 1, by omega, by omega, by go_num, HM.out, q + nq, by first | rfl | rw [draws_add]⟩, by simp [intOf]; omega⟩
      · have hz : ¬ (k : Int) < (S.length : Int) := by omega
        have HP : Hid (CompPost base w g c S (.returned (.slice (some ⟨g, off, none⟩) S.length c)) (w.drewN q)) := by
          rw [HO0.out]
          have h1 := HC.out
          rw [List.take_of_length_le (by omega)] at h1
          exact ⟨S, rfl, HR.out.draws q, h1.rise, fun _ h => h, fun x hx => ⟨x, hx, rfl⟩, Nat.le_refl _, (Keep.refl _ _ _).draws q⟩
        go_wp2
        go_ret
        exact HP.out
theorem compact_any {base : Nat} {w : World} {g c : Nat} {S : List Kc} (hb : base ≤ w.heap.size) (hB : base ≤ g) (hr : RowK w g c S) (hok : ∀ e ∈ S, KeyK base w e.v e.k) (hs : (keysOf S).Pairwise (· ≤ ·)) (hlen : S.length ≤ 140737488355328) :
    Calls Try.prog 38 #[.slice (some ⟨g, 0, none⟩) S.length c, .func (.func 39) #[] #[]] w fun r w' => CompPost base w g c S r w' := compact_off (off := 0) rfl hb hB hr hok hs hlen
end Go.Proofs.Ytkjjgbaoicjbaab
