/- The Lot's keys: what is asked of two keys. -/
import Derived.Test.YtphohkchffcjeaaLotEnds
namespace Go.Proofs.Ytphohkchffcjeaa
open Go.RowKit

/-- What was there stays: all below base, and all bytes. -/
structure Goes (base : Nat) (w w' : World) : Prop where
  below : Below base w w'
  bytes : ∀ (k : Nat) (c : Array Value) (r : Nat × Nat), w.heap[k]? = some (.cells c 5 r) → w'.heap[k]? = some (.cells c 5 r)
theorem Goes.refl (base : Nat) (w : World) : Goes base w w := ⟨Below.refl _ _, fun _ _ _ h => h⟩
theorem Goes.trans {base : Nat} {a b c : World} (h : Goes base a b) (k : Goes base b c) : Goes base a c := ⟨h.below.trans k.below, fun i x r hx => k.bytes i x r (h.bytes i x r hx)⟩
theorem Goes.of {base : Nat} {w w' : World} (h : Below w.heap.size w w') (hb : base ≤ w.heap.size) : Goes base w w' :=
  ⟨h.mono hb, fun k c r hk => by rw [h.block k (Array.getElem?_eq_some_iff.1 hk).1]; exact hk⟩
theorem Goes.own {base base' n : Nat} {w w' : World} {v : Value} {xs : List Value} (h : Goes base w w') (ho : w.ownsRow base' 5 1 v n xs) : w'.ownsRow base' 5 1 v n xs :=
  own_same ho fun k hk _ => by
    obtain ⟨_, _, c, hc⟩ := own_type ho k hk
    rw [h.bytes k c _ hc, hc]
theorem Goes.new {base base' : Nat} {w w' : World} {v : Value} {k : Key} (h : Goes base w w') (ho : NewKey base' w v k) : NewKey base' w' v k := ⟨h.own ho.own, ho.short⟩
theorem Goes.row {base g : Nat} {w w' : World} {k : Key} (h : Goes base w w') (hr : BRow w g k) : BRow w' g k := ⟨h.bytes g _ _ hr.row⟩
/-- A key that stays. -/
structure KeyS (base : Nat) (w : World) (v : Value) (k : Key) : Prop where
  is : KeyAt w v k
  tag : k ≠ [] → ∀ (ad : Addr) (n c : Nat), v = .slice (some ad) n c → ad.block < base ∨ ∃ cur r, w.heap[ad.block]? = some (.cells cur 5 r)
theorem KeyS.goes {base : Nat} {w w' : World} {v : Value} {k : Key} (h : KeyS base w v k) (hg : Goes base w w') : KeyS base w' v k := by
  obtain ⟨⟨⟨a, c, rfl, hb, hc⟩, hs⟩, ht⟩ := h
  refine ⟨⟨⟨a, c, rfl, fun j x hj => ?_, hc⟩, hs⟩, fun hk ad n c' e => ?_⟩
  · obtain ⟨g, off, e, hl, hcell⟩ := hb j x hj
    subst e
    have hblk : w'.heap[g]? = w.heap[g]? := by
      rcases ht (fun e => by subst e; simp at hj) ⟨g, off, none⟩ _ _ rfl with h1 | ⟨cur, r, h1⟩
      · exact hg.below.block g h1
      · rw [hg.bytes g cur r h1]; exact h1.symm
    exact ⟨g, off, rfl, Nat.lt_of_lt_of_le hl hg.below.size, by rw [World.cell?_of_block (a := ⟨g, off + j, none⟩) hblk]; exact hcell⟩
  · rcases ht hk ad n c' e with h1 | ⟨cur, r, h1⟩
    · exact .inl h1
    · exact .inr ⟨cur, r, hg.bytes _ cur r h1⟩
theorem KeyS.of_in {base : Nat} {w : World} {v : Value} {k : Key} (h : KeyIn base w v k) (hb : base ≤ w.heap.size) : KeyS base w v k := by
  refine ⟨h.at hb, fun hk ad n c e => ?_⟩
  obtain ⟨⟨a, c', e', hby, _, hn⟩, hs⟩ := h
  subst e
  cases e'
  obtain ⟨x, r, rfl⟩ := List.exists_cons_of_ne_nil hk
  obtain ⟨g, off, e, hl, _⟩ := hby 0 x rfl
  cases e
  exact .inl hl
theorem KeyS.of_row {base : Nat} {w : World} {g : Nat} {k m : Key} (h : BRow w g (k ++ m)) (c : Nat) (hc : k.length ≤ c) (hs : k.length ≤ 140737488355328) : KeyS base w (.slice (some ⟨g, 0, none⟩) k.length c) k :=
  ⟨h.key c hc hs, fun _ ad n c' e => by cases e; exact .inr ⟨_, _, h.row⟩⟩

/-- Between's answer, in both cases. -/
def btw (x y : Key) : Key := if x < y then midK x y else []
def btwE (x y : Key) : Int := if x < y then 0 else 41
theorem btw_length (x y : Key) : (btw x y).length ≤ y.length := by
  unfold btw
  split
  · unfold midK
    rw [List.length_take]
    omega
  · simp
theorem between_gen {w : World} {u v : Value} {x y : Key} (hu : KeyAt w u x) (hv : KeyAt w v y) :
    Calls Try.prog 25 #[u, v] w fun e w' => ∃ k, e = .returned (.tuple #[k, .int .i64 (btwE x y)]) ∧ NewKey w.heap.size w' k (btw x y) ∧ Below w.heap.size w w' := by
  refine (between_any hu hv).mono ?_
  rintro e w1 ⟨hb1, ⟨h, k, rfl, hk⟩ | ⟨h, rfl⟩⟩
  · exact ⟨k, by rw [btwE, if_pos h], by rw [btw, if_pos h]; exact hk, hb1⟩
  · exact ⟨_, by rw [btwE, if_neg h], by rw [btw, if_neg h]; exact NewKey.nil _ _, hb1⟩
theorem refBetween_gen {w : World} {u v : Value} {x y : Key} (hu : KeyAt w u x) (hv : KeyAt w v y) :
    Calls Try.prog 31 #[u, v] w fun e w' => ∃ k, e = .returned (.tuple #[k, .int .i64 (btwE x y)]) ∧ NewKey w.heap.size w' k (btw x y) ∧ Below w.heap.size w w' := by
  refine (refBetween_any hu hv).mono ?_
  rintro e w1 ⟨hb1, ⟨h, k, rfl, hk⟩ | ⟨h, rfl⟩⟩
  · exact ⟨k, by rw [btwE, if_pos h], by rw [btw, if_pos h]; exact hk, hb1⟩
  · exact ⟨_, by rw [btwE, if_neg h], by rw [btw, if_neg h]; exact NewKey.nil _ _, hb1⟩
theorem KeptBut.goes {w w' : World} {base b : Nat} {l0 l1 vl vw : Value} {items : List (Value × Key)} (hk : KeptBut b vl vw w w') (h : Book w base b l0 l1 vl vw items) (hb : Below base w w') : Goes base w w' :=
  ⟨hb, fun k c r hc => hk.stays h hc (by decide) (by decide) (by decide)⟩
theorem NewKey.slice {base : Nat} {w : World} {v : Value} {k : Key} (h : NewKey base w v k) : ∃ a c, v = .slice a k.length c := by
  obtain ⟨a, c, e, _⟩ := h.at.is
  exact ⟨a, c, e⟩

set_option maxHeartbeats 3200000 in
set_option maxRecDepth 100000 in
theorem keys_any {w : World} {base b : Nat} {l0 l1 vl vw x y u v : Value} {items : List (Value × Key)} {k m : Key} (H : Book w base b l0 l1 vl vw items) (hx : KeyS base w x k) (hy : KeyS base w y m) (hu : KeyS base w u k) (hv : KeyS base w v m) (hk : k.length ≤ 140737488351232) (hm : m.length ≤ 140737488351232) (hbase : base ≤ w.heap.size) (hil : items.length ≤ 999990) :
    Calls Try.prog 11 #[.pointer (some ⟨b, 0, none⟩), x, y, u, v] w fun e w' => e = .returned (.bool true) ∧ Goes base w w' ∧ ∃ vl' vw' new, Book w' base b l0 l1 vl' vw' (items ++ new) ∧ new.length = 2 ∧ ∀ z ∈ new, z.2.length ≤ 140737488351240 ∧ ∀ g, z.1.ownBlock = some g → w.heap.size ≤ g := by
  have HH : Hid (Book w base b l0 l1 vl vw items) := H
  have HX : Hid (KeyS base w x k) := hx
  have HY : Hid (KeyS base w y m) := hy
  have HU : Hid (KeyS base w u k) := hu
  have HV : Hid (KeyS base w v m) := hv
  have hlb : b < w.heap.size := H.lt
  obtain ⟨a1, c1, rfl, _⟩ := hx.is.is
  obtain ⟨a2, c2, rfl, _⟩ := hy.is.is
  obtain ⟨a3, c3, rfl, _⟩ := hu.is.is
  obtain ⟨a4, c4, rfl, _⟩ := hv.is.is
  obtain ⟨K1, hK1⟩ : ∃ K1 : Key, k ++ [0] = K1 := ⟨_, rfl⟩
  obtain ⟨K2, hK2⟩ : ∃ K2 : Key, btw k m = K2 := ⟨_, rfl⟩
  have HL1 : Hid (K1.length = k.length + 1) := by rw [Hid, ← hK1]; simp
  have HL2 : Hid (K2.length ≤ m.length) := by rw [Hid, ← hK2]; exact btw_length k m
  clear H hx hy hu hv
  go_enter Try.func11, Try.ntmps11
  go_wp2_with fail
  refine (next_any HX.out.is (by omega)).mono ?_
  rintro e w1 ⟨nv, rfl, hn, hb1⟩
  rw [hK1] at hn
  have G1 : Hid (Goes base w w1) := Goes.of hb1 hbase
  have N1 : Hid (NewKey w.heap.size w1 nv K1) := hn
  have B1 : Hid (Book w1 base b l0 l1 vl vw items) := HH.out.here hb1
  have hs1 : w.heap.size ≤ w1.heap.size := hb1.size
  obtain ⟨an, cn, rfl⟩ := hn.slice
  clear hn hb1
  go_wp2_with fail
  refine (refNext_any (HU.out.goes G1.out).is (by omega)).mono ?_
  rintro e w2 ⟨mv, rfl, hn, hb1⟩
  rw [hK1] at hn
  have G2 : Hid (Goes base w w2) := G1.out.trans (Goes.of hb1 (by omega))
  have N2 : Hid (NewKey w1.heap.size w2 mv K1) := hn
  have N12 : Hid (NewKey w.heap.size w2 (.slice an K1.length cn) K1) := N1.out.here hb1
  have B2 : Hid (Book w2 base b l0 l1 vl vw items) := B1.out.here hb1
  have hs2 : w1.heap.size ≤ w2.heap.size := hb1.size
  obtain ⟨am, cm, rfl⟩ := hn.slice
  clear hn hb1
  go_wp2_with fail
  refine (between_gen (HX.out.goes G2.out).is (HY.out.goes G2.out).is).mono ?_
  rintro e w3 ⟨kv, rfl, hn, hb1⟩
  rw [hK2] at hn
  have G3 : Hid (Goes base w w3) := G2.out.trans (Goes.of hb1 (by omega))
  have N3 : Hid (NewKey w2.heap.size w3 kv K2) := hn
  have N13 : Hid (NewKey w.heap.size w3 (.slice an K1.length cn) K1) := N12.out.here hb1
  have N23 : Hid (NewKey w1.heap.size w3 (.slice am K1.length cm) K1) := N2.out.here hb1
  have B3 : Hid (Book w3 base b l0 l1 vl vw items) := B2.out.here hb1
  have hs3 : w2.heap.size ≤ w3.heap.size := hb1.size
  obtain ⟨ak, ck, rfl⟩ := hn.slice
  clear hn hb1
  go_wp2_with fail
  refine (refBetween_gen (HU.out.goes G3.out).is (HV.out.goes G3.out).is).mono ?_
  rintro e w4 ⟨lv, rfl, hn, hb1⟩
  rw [hK2] at hn
  have G4 : Hid (Goes base w w4) := G3.out.trans (Goes.of hb1 (by omega))
  have N4 : Hid (NewKey w3.heap.size w4 lv K2) := hn
  have N14 : Hid (NewKey w.heap.size w4 (.slice an K1.length cn) K1) := N13.out.here hb1
  have N24 : Hid (NewKey w1.heap.size w4 (.slice am K1.length cm) K1) := N23.out.here hb1
  have N34 : Hid (NewKey w2.heap.size w4 (.slice ak K2.length ck) K2) := N3.out.here hb1
  have B4 : Hid (Book w4 base b l0 l1 vl vw items) := B3.out.here hb1
  have hs4 : w3.heap.size ≤ w4.heap.size := hb1.size
  obtain ⟨al, cl, rfl⟩ := hn.slice
  clear hn hb1
  have HO5 := hold_any B4.out (own_mono N14.out.own hbase) (N24.out.mono (by omega)) (fun i v' bs' g hi hg hg' => by
    have h1 := (own_type N14.out.own g hg).2.1
    have h2 := (own_type (HH.out.item i v' bs' hi) g hg').1
    omega) (by omega) (by omega)
  go_wp2_with fail
  refine HO5.mono ?_
  rintro e w5 ⟨rfl, ⟨vl5, vw5, B5'⟩, K5, L5⟩
  have B5 : Hid (Book w5 base b l0 l1 vl5 vw5 (items ++ [(.slice an K1.length cn, K1)])) := B5'
  have G45 : Hid (Goes base w4 w5) := K5.goes B4.out L5
  have hs5 : w4.heap.size ≤ w5.heap.size := L5.size
  clear B5' K5 L5 HO5
  have HO6 := hold_any B5.out (own_mono (G45.out.own N34.out.own) (by omega)) ((G45.out.new N4.out).mono (by omega)) (fun i v' bs' g hi hg hg' => by
    have h1 := (own_type N34.out.own g hg).2.1
    rcases items_at _ _ _ _ hi with ⟨_, h⟩ | ⟨_, h⟩
    · have h2 := (own_type (HH.out.item i v' bs' h) g hg').1
      omega
    · cases h
      have h2 := (own_type N1.out.own g hg').1
      omega) (by simp; omega) (by omega)
  go_wp2_with fail
  refine HO6.mono ?_
  rintro e w6 ⟨rfl, ⟨vl6, vw6, B6'⟩, K6, L6⟩
  have B6 : Hid (Book w6 base b l0 l1 vl6 vw6 ((items ++ [(.slice an K1.length cn, K1)]) ++ [(.slice ak K2.length ck, K2)])) := B6'
  have G46 : Hid (Goes base w4 w6) := G45.out.trans (K6.goes B5.out L6)
  have G6 : Hid (Goes base w w6) := G4.out.trans G46.out
  clear B6' K6 L6 HO6
  have hc1 := compare_key (HX.out.goes G6.out).is (HY.out.goes G6.out).is
  have HKA : Hid (∀ q, KeyAt (w6.drewN q) (.slice a1 k.length c1) k ∧ KeyAt (w6.drewN q) (.slice a2 m.length c2) m ∧ KeyAt (w6.drewN q) (.slice a3 k.length c3) k ∧ KeyAt (w6.drewN q) (.slice a4 m.length c4) m) := fun q =>
    ⟨(HX.out.goes G6.out).is.draws q, (HY.out.goes G6.out).is.draws q, (HU.out.goes G6.out).is.draws q, (HV.out.goes G6.out).is.draws q⟩
  have cv1 : ∀ q, (convert 23 9 (.slice an K1.length cn)).run Try.prog (w6.drewN q) = .ok (.string (strB K1)) (w6.drewN q) := fun q => conv_key ((G46.out.new N14.out).at.draws q)
  have cv2 : ∀ q, (convert 23 9 (.slice am K1.length cm)).run Try.prog (w6.drewN q) = .ok (.string (strB K1)) (w6.drewN q) := fun q => conv_key ((G46.out.new N24.out).at.draws q)
  have cv3 : ∀ q, (convert 23 9 (.slice ak K2.length ck)).run Try.prog (w6.drewN q) = .ok (.string (strB K2)) (w6.drewN q) := fun q => conv_key ((G46.out.new N34.out).at.draws q)
  have cv4 : ∀ q, (convert 23 9 (.slice al K2.length cl)).run Try.prog (w6.drewN q) = .ok (.string (strB K2)) (w6.drewN q) := fun q => conv_key ((G46.out.new N4.out).at.draws q)
  generalize strB K1 = S1 at cv1 cv2
  generalize strB K2 = S2 at cv3 cv4
  clear hK1 hK2
  go_wp2_with fail
  refine hc1.mono ?_
  rintro e _ ⟨rfl, q1, rfl⟩
  go_wp2_with fail
  refine (refCompare_key (HKA.out q1).2.2.1 (HKA.out q1).2.2.2).mono ?_
  rintro e _ ⟨rfl, q2, rfl⟩
  rw [draws_add]
  go_wp2_with fail
  refine (common_key (HKA.out (q1 + q2)).1 (HKA.out (q1 + q2)).2.1).mono ?_
  rintro e _ ⟨rfl, q3, rfl⟩
  rw [draws_add]
  go_wp2_with fail
  refine (refCommon_key (HKA.out (q1 + q2 + q3)).2.2.1 (HKA.out (q1 + q2 + q3)).2.2.2).mono ?_
  rintro e _ ⟨rfl, q4, rfl⟩
  rw [draws_add]
  go_wp2
  go_ret
  refine ⟨rfl, G6.out.trans (Goes.of (below_draws (Below.refl _ _) _) (Nat.le_trans hbase G6.out.below.size)), vl6, vw6, _, by have := B6.out.here (below_draws (Below.refl _ w6) (q1 + q2 + q3 + q4)); rw [List.append_assoc] at this; exact this, rfl, fun z hz => ?_⟩
  have h1 := HL1.out
  have h2 := HL2.out
  simp only [List.cons_append, List.nil_append, List.mem_cons, List.not_mem_nil, or_false] at hz
  rcases hz with rfl | rfl
  · exact ⟨by show K1.length ≤ _; omega, fun g hg => (own_type N14.out.own g hg).2.1⟩
  · exact ⟨by show K2.length ≤ _; omega, fun g hg => Nat.le_trans (Nat.le_trans hs1 hs2) (own_type N34.out.own g hg).2.1⟩
end Go.Proofs.Ytphohkchffcjeaa
