/- The law's Book: what it is, and keep: one more. -/
import Derived.Test.YtgifnaahahfhbaaBkApp
import Derived.Deep.RegionLaw
namespace Go.Proofs.Ytgifnaahahfhbaa
open Go.RowKit

variable {ve : Value}

/-- A Book with bytes that came out, each a slice and what it held. -/
structure Book (ve : Value) (w : World) (base b : Nat) (vl vw : Value) (items : List (Value × List UInt8)) (was : List Value) : Prop where
  cells : w.heap[b]? = some (.cells #[vl, vw, ve] 31 (0, 0))
  low : base ≤ b
  rowL : w.ownsRow base 39 1 vl items.length (items.map (·.1))
  rowW : w.ownsRow base 39 1 vw items.length was
  apart : ∀ k, vl.ownBlock = some k → vw.ownBlock ≠ some k
  item : ∀ (i : Nat) v bs, items[i]? = some (v, bs) → w.ownsRow base 5 1 v bs.length (bs.map encB)
  wasI : ∀ (i : Nat) v bs u, items[i]? = some (v, bs) → was[i]? = some u → w.ownsRow base 5 1 u bs.length (bs.map encB)
  alone : ∀ (i j : Nat) v bs v' bs' k, items[i]? = some (v, bs) → items[j]? = some (v', bs') → v.ownBlock = some k → v'.ownBlock = some k → i = j

/-- Nothing but a Book's own lists has changed. -/
def KeptBut (b : Nat) (vl vw : Value) (w w' : World) : Prop := ∀ k : Nat, k < w.heap.size → k ≠ b → vl.ownBlock ≠ some k → vw.ownBlock ≠ some k → w'.heap[k]? = w.heap[k]?

theorem tagB_ne {w : World} {k : Nat} {c c' : Array Value} {e e' : TypeId} {r r' : Nat × Nat} (h : w.heap[k]? = some (.cells c e r)) (h' : w.heap[k]? = some (.cells c' e' r')) : e = e' := by
  rw [h] at h'
  cases h'
  rfl
theorem Book.not_b {w : World} {base b : Nat} {vl vw : Value} {items : List (Value × List UInt8)} {was : List Value} (h : Book ve w base b vl vw items was) {k : Nat} {c : Array Value} {e : TypeId} {r : Nat × Nat} (hk : w.heap[k]? = some (.cells c e r)) (he : e ≠ 31) : k ≠ b := fun q => by
  subst q
  exact he (tagB_ne hk h.cells)
theorem Book.not_l {w : World} {base b : Nat} {vl vw : Value} {items : List (Value × List UInt8)} {was : List Value} (h : Book ve w base b vl vw items was) {k : Nat} {c : Array Value} {e : TypeId} {r : Nat × Nat} (hk : w.heap[k]? = some (.cells c e r)) (he : e ≠ 39) : vl.ownBlock ≠ some k := fun q => by
  obtain ⟨_, _, c', hc⟩ := own_type h.rowL k q
  exact he (tagB_ne hk hc)
theorem Book.not_w {w : World} {base b : Nat} {vl vw : Value} {items : List (Value × List UInt8)} {was : List Value} (h : Book ve w base b vl vw items was) {k : Nat} {c : Array Value} {e : TypeId} {r : Nat × Nat} (hk : w.heap[k]? = some (.cells c e r)) (he : e ≠ 39) : vw.ownBlock ≠ some k := fun q => by
  obtain ⟨_, _, c', hc⟩ := own_type h.rowW k q
  exact he (tagB_ne hk hc)
/-- Bytes and heads stay where a Book is kept. -/
theorem KeptBut.stays {w w' : World} {base b : Nat} {vl vw : Value} {items : List (Value × List UInt8)} {was : List Value} (hk : KeptBut b vl vw w w') (h : Book ve w base b vl vw items was) {k : Nat} {c : Array Value} {e : TypeId} {r : Nat × Nat} (hc : w.heap[k]? = some (.cells c e r)) (h1 : e ≠ 31) (h2 : e ≠ 39) : w'.heap[k]? = some (.cells c e r) := by
  rw [hk k (Array.getElem?_eq_some_iff.1 hc).1 (h.not_b hc h1) (h.not_l hc h2) (h.not_w hc h2)]
  exact hc
theorem KeptBut.bytes {w w' : World} {base b : Nat} {vl vw : Value} {items : List (Value × List UInt8)} {was : List Value} (hk : KeptBut b vl vw w w') (h : Book ve w base b vl vw items was) {base' n : Nat} {v : Value} {xs : List Value} (ho : w.ownsRow base' 5 1 v n xs) : w'.ownsRow base' 5 1 v n xs :=
  own_same ho fun k hv _ => by
    obtain ⟨_, _, c, hc⟩ := own_type ho k hv
    rw [hk.stays h hc (by decide) (by decide), hc]
theorem Book.moved {w w' : World} {base b : Nat} {vl vw : Value} {items : List (Value × List UInt8)} {was : List Value} (h : Book ve w base b vl vw items was)
    (hb : w'.heap[b]? = w.heap[b]?) (hl : ∀ k, vl.ownBlock = some k → w'.heap[k]? = w.heap[k]?) (hw : ∀ k, vw.ownBlock = some k → w'.heap[k]? = w.heap[k]?)
    (hi : ∀ (i : Nat) v bs k, items[i]? = some (v, bs) → v.ownBlock = some k → w'.heap[k]? = w.heap[k]?) (hu : ∀ (i : Nat) u k, was[i]? = some u → u.ownBlock = some k → w'.heap[k]? = w.heap[k]?) : Book ve w' base b vl vw items was :=
  ⟨by rw [hb]; exact h.cells, h.low, own_same h.rowL fun k hk _ => hl k hk, own_same h.rowW fun k hk _ => hw k hk, h.apart, fun i v bs hv => own_same (h.item i v bs hv) fun k hk _ => hi i v bs k hv hk, fun i v bs u hv hu' => own_same (h.wasI i v bs u hv hu') fun k hk _ => hu i u k hu' hk, h.alone⟩
theorem was_at {was : List Value} {n : Nat} (hl : was.length = n) {i : Nat} {items : List (Value × List UInt8)} (hi : items.length = n) {u : Value} (hu : was[i]? = some u) : ∃ v bs, items[i]? = some (v, bs) := by
  have := (List.getElem?_eq_some_iff.1 hu).1
  exact ⟨_, _, List.getElem?_eq_getElem (by omega)⟩
theorem Book.here {w w' : World} {base b : Nat} {vl vw : Value} {items : List (Value × List UInt8)} {was : List Value} (h : Book ve w base b vl vw items was) (hb : Below w.heap.size w w') : Book ve w' base b vl vw items was := by
  have hlw : was.length = items.length := by have := h.rowW.1; simpa using this
  refine h.moved (hb.block _ (Array.getElem?_eq_some_iff.1 h.cells).1) (fun k hk => hb.block _ (own_type h.rowL k hk).1) (fun k hk => hb.block _ (own_type h.rowW k hk).1) (fun i v bs k hv hk => hb.block _ (own_type (h.item i v bs hv) k hk).1) (fun i u k hu hk => ?_)
  obtain ⟨v, bs, hv⟩ := was_at hlw rfl hu
  exact hb.block _ (own_type (h.wasI i v bs u hv hu) k hk).1

theorem slice_oneB (a : Option Addr) (n c : Nat) : ∀ u ∈ [Value.slice a n c], u.oneCell' = true := fun u hu => by simp at hu; rw [hu]; rfl

theorem items_at {α : Type} (l : List α) (x y : α) (i : Nat) (h : (l ++ [x])[i]? = some y) : (i < l.length ∧ l[i]? = some y) ∨ (i = l.length ∧ y = x) := by
  by_cases hi : i < l.length
  · rw [List.getElem?_append_left hi] at h
    exact .inl ⟨hi, h⟩
  · rw [List.getElem?_append_right (by omega)] at h
    have hl := (List.getElem?_eq_some_iff.1 h).1
    simp at hl
    have e : i = l.length := by omega
    subst e
    simp at h
    exact .inr ⟨rfl, h.symm⟩

theorem keep_end {w wA w1 w2 w3 w4 : World} {base b : Nat} {vl vw : Value} {items : List (Value × List UInt8)} {was : List Value} {a : Option Addr} {c : Nat} {bs : List UInt8} {g1 c1 g3 c3 g4 c4 : Nat}
    (H : Book ve w base b vl vw items was) (hv : w.ownsRow base 5 1 (.slice a bs.length c) bs.length (bs.map encB))
    (hnew : ∀ (i : Nat) v' bs' k, items[i]? = some (v', bs') → (Value.slice a bs.length c).ownBlock = some k → v'.ownBlock ≠ some k) (hbase : base ≤ w.heap.size)
    (hbA : Below w.heap.size w wA) (hsA : wA.heap.size = w.heap.size + 1)
    (ho1 : w1.ownsRow base 39 1 (.slice (some ⟨g1, 0, none⟩) (items.length + 1) c1) (items.length + 1) (items.map (·.1) ++ [.slice a bs.length c])) (hg1 : wA.grownBy w1 vl.ownBlock) (hat1 : vl.ownBlock = some g1 ∨ g1 = wA.heap.size)
    (hz2 : w2.os = w1.os ∧ w2.tape = w1.tape ∧ w2.output = w1.output) (hs2 : w2.heap.size = w1.heap.size) (hk2 : ∀ k : Nat, k ≠ b → w2.heap[k]? = w1.heap[k]?)
    (hb3 : Below w2.heap.size w2 w3) (ho3 : w3.ownsRow w2.heap.size 5 1 (.slice (some ⟨g3, 0, none⟩) (0 + bs.length) c3) (0 + bs.length) (([] ++ bs).map encB))
    (ho4 : w4.ownsRow base 39 1 (.slice (some ⟨g4, 0, none⟩) (items.length + 1) c4) (items.length + 1) (was ++ [.slice (some ⟨g3, 0, none⟩) (0 + bs.length) c3])) (hg4 : (w3.alloc (.cells #[.slice (some ⟨g3, 0, none⟩) bs.length c3] 39)).grownBy w4 vw.ownBlock)
    (hat4 : vw.ownBlock = some g4 ∨ g4 = (w3.alloc (.cells #[.slice (some ⟨g3, 0, none⟩) bs.length c3] 39)).heap.size)
    (hb4 : w4.heap[b]? = some (.cells #[.slice (some ⟨g1, 0, none⟩) (items.length + 1) c1, vw, ve] 31 (0, 0))) (w5 : World) (h5 : w5 = w4.setCell ⟨b, 1, none⟩ (.slice (some ⟨g4, 0, none⟩) (items.length + 1) c4)) :
    (∃ vl' vw' was', Book ve w5 base b vl' vw' (items ++ [(.slice a bs.length c, bs)]) was' ∧ (∀ k, vl'.ownBlock = some k ∨ vw'.ownBlock = some k → (vl.ownBlock = some k ∨ vw.ownBlock = some k) ∨ w.heap.size ≤ k) ∧ ∃ u, was' = was ++ [u] ∧ ∀ k, u.ownBlock = some k → w.heap.size ≤ k) ∧ KeptBut b vl vw w w5 ∧ Below base w w5 := by
  have hbl : b < w.heap.size := (Array.getElem?_eq_some_iff.1 H.cells).1
  have hz1 := hg1.size
  have hz3 := hb3.size
  have hz4 := hg4.size
  simp only [World.alloc, Array.size_push] at hz4
  have hz5 : w5.heap.size = w4.heap.size := by rw [h5]; simp
  have k54 : ∀ k : Nat, k ≠ b → w5.heap[k]? = w4.heap[k]? := fun k hk => by rw [h5, heap_set_other _ hk]
  have k43 : ∀ k : Nat, k < w3.heap.size → vw.ownBlock ≠ some k → w4.heap[k]? = w3.heap[k]? := fun k hk hkw => by
    rw [hg4.block k (by simp; omega) (fun e => hkw e.symm), Below.heap_alloc _ _ _ hk]
  have k51 : ∀ k : Nat, k < w2.heap.size → k ≠ b → vw.ownBlock ≠ some k → w5.heap[k]? = w1.heap[k]? := fun k hk hkb hkw => by
    rw [k54 k hkb, k43 k (by omega) hkw, hb3.block k hk, hk2 k hkb]
  have K5 : KeptBut b vl vw w w5 := fun k hk hkb hkl hkw => by
    rw [k51 k (by omega) hkb hkw, hg1.block k (by omega) (fun e => hkl e.symm), hbA.block k hk]
  have hwl : ∀ k, vw.ownBlock = some k → k < w.heap.size := fun k hk => (own_type H.rowW k hk).1
  have hll : ∀ k, vl.ownBlock = some k → k < w.heap.size := fun k hk => (own_type H.rowL k hk).1
  have hg1b : g1 ≠ b := fun e => by
    rcases hat1 with h | h
    · exact H.not_l H.cells (by decide) (by rw [← e]; exact h)
    · omega
  have hg1w : vw.ownBlock ≠ some g1 := fun e => by
    rcases hat1 with h | h
    · exact H.apart g1 h e
    · have := hwl g1 e; omega
  have hg1l : g1 < w1.heap.size := (own_type ho1 g1 rfl).1
  have hg4b : g4 ≠ b := fun e => by
    rcases hat4 with h | h
    · exact H.not_w H.cells (by decide) (by rw [← e]; exact h)
    · simp at h; omega
  have hg14 : g1 ≠ g4 := fun e => by
    subst e
    rcases hat4 with h | h
    · exact hg1w h
    · simp at h; omega
  have hg3b : w2.heap.size ≤ g3 := (own_type ho3 g3 rfl).2.1
  have hlw : was.length = items.length := by have := H.rowW.1; simpa using this
  refine ⟨⟨.slice (some ⟨g1, 0, none⟩) (items.length + 1) c1, .slice (some ⟨g4, 0, none⟩) (items.length + 1) c4, was ++ [.slice (some ⟨g3, 0, none⟩) (0 + bs.length) c3], ?_, fun k hk => ?_, _, rfl, fun k hk => ?_⟩, K5, ?_⟩
  · have hlen : (items ++ [(Value.slice a bs.length c, bs)]).length = items.length + 1 := by simp
    refine ⟨by rw [h5, heap_set_same _ hb4]; rfl, H.low, ?_, ?_, ?_, ?_, ?_, ?_⟩
    · rw [hlen, List.map_append]
      exact own_same ho1 fun k hk _ => by cases hk; exact k51 g1 (by omega) hg1b hg1w
    · rw [hlen]
      exact own_same ho4 fun k hk _ => by cases hk; exact k54 g4 hg4b
    · intro k hk hk'
      cases hk
      cases hk'
      exact hg14 rfl
    · intro i v' bs' hi
      rcases items_at _ _ _ _ hi with ⟨_, h⟩ | ⟨_, h⟩
      · exact K5.bytes H (H.item i v' bs' h)
      · cases h
        exact K5.bytes H hv
    · intro i v' bs' u hi hu
      rcases items_at _ _ _ _ hi with ⟨hil, h⟩ | ⟨hil, h⟩
      · rcases items_at _ _ _ _ hu with ⟨_, h'⟩ | ⟨e, _⟩
        · exact K5.bytes H (H.wasI i v' bs' u h h')
        · omega
      · cases h
        rcases items_at _ _ _ _ hu with ⟨e, _⟩ | ⟨_, h'⟩
        · omega
        · subst h'
          rw [Nat.zero_add, List.nil_append] at ho3
          rw [Nat.zero_add]
          refine own_mono (own_same ho3 fun k hk hkl => ?_) (show base ≤ w2.heap.size by omega)
          cases hk
          rw [k54 g3 (by omega), k43 g3 hkl (fun e => by have := hwl g3 e; omega)]
    · intro i j v1 b1 v2 b2 k hi hj h1 h2
      rcases items_at _ _ _ _ hi with ⟨_, hi'⟩ | ⟨ei, hi'⟩
      · rcases items_at _ _ _ _ hj with ⟨_, hj'⟩ | ⟨_, hj'⟩
        · exact H.alone i j v1 b1 v2 b2 k hi' hj' h1 h2
        · cases hj'
          exact absurd h1 (hnew i v1 b1 k hi' h2)
      · rcases items_at _ _ _ _ hj with ⟨_, hj'⟩ | ⟨ej, _⟩
        · cases hi'
          exact absurd h2 (hnew j v2 b2 k hj' h1)
        · omega
  · rcases hk with hk | hk
    · cases hk
      rcases hat1 with e | e
      · exact .inl (.inl e)
      · exact .inr (show w.heap.size ≤ g1 by omega)
    · cases hk
      rcases hat4 with e | e
      · exact .inl (.inr e)
      · exact .inr (show w.heap.size ≤ g4 by simp at e; omega)
  · cases hk
    show w.heap.size ≤ g3
    omega
  · refine ⟨?_, ?_, ?_, by omega, fun k hk => K5 k (by omega) (by have := H.low; omega) (fun e => by have := (own_type H.rowL k e).2.1; omega) (fun e => by have := (own_type H.rowW k e).2.1; omega)⟩
    · rw [h5]; exact hg4.os.trans (hb3.os.trans (hz2.1.trans (hg1.os.trans hbA.os)))
    · rw [h5]; exact hg4.tape.trans (hb3.tape.trans (hz2.2.1.trans (hg1.tape.trans hbA.tape)))
    · rw [h5]; exact hg4.output.trans (hb3.output.trans (hz2.2.2.trans (hg1.output.trans hbA.output)))

set_option maxHeartbeats 1600000 in
set_option maxRecDepth 100000 in
theorem keep_any (w : World) (base b : Nat) (vl vw : Value) (items : List (Value × List UInt8)) (was : List Value) (v : Value) (bs : List UInt8) (H : Book ve w base b vl vw items was) (hv : w.ownsRow base 5 1 v bs.length (bs.map encB))
    (hnew : ∀ (i : Nat) v' bs' k, items[i]? = some (v', bs') → v.ownBlock = some k → v'.ownBlock ≠ some k) (hlen : bs.length ≤ 1099511627776) (hil : items.length ≤ 1000000) (hbase : base ≤ w.heap.size) :
    Calls Try.prog 35 #[.pointer (some ⟨b, 0, none⟩), v] w fun e w' => e = .returned (.tuple #[]) ∧ (∃ vl' vw' was', Book ve w' base b vl' vw' (items ++ [(v, bs)]) was' ∧ (∀ k, vl'.ownBlock = some k ∨ vw'.ownBlock = some k → (vl.ownBlock = some k ∨ vw.ownBlock = some k) ∨ w.heap.size ≤ k) ∧ ∃ u, was' = was ++ [u] ∧ ∀ k, u.ownBlock = some k → w.heap.size ≤ k) ∧ KeptBut b vl vw w w' ∧ Below base w w' := by
  obtain ⟨i0, hi, hz0, hz1, hz2⟩ := info27'
  obtain ⟨a, c, rfl, hby, _, _, hna⟩ := bytes_own hv
  have HH : Hid _ := H
  have HV : Hid _ := hv
  have HNW : Hid _ := hnew
  have HBY : Hid (BytesAt w.heap.size w a bs) := hby
  have HNA : Hid (a = none → c = 0) := hna
  have hlb : b < w.heap.size := (Array.getElem?_eq_some_iff.1 H.cells).1
  obtain ⟨wA, hwA⟩ : ∃ wA, wA = w.alloc (.cells #[.slice a bs.length c] 39) := ⟨_, rfl⟩
  have hbA : Below w.heap.size w wA := by rw [hwA]; exact (Below.refl _ _).alloc (Nat.le_refl _) _
  have hsA : wA.heap.size = w.heap.size + 1 := by rw [hwA]; simp
  have HBA : Hid (Below w.heap.size w wA) := hbA
  have HSA : Hid (wA.heap.size = w.heap.size + 1) := hsA
  have HLA : Hid (wA.ownsRow base 39 1 vl items.length (items.map (·.1))) := own_same H.rowL fun k _ hk => hbA.block k hk
  have HNEW : Hid (∀ (j : Nat) (u : Value), [Value.slice a bs.length c][j]? = some u → wA.cell? ((⟨w.heap.size, 0, none⟩ : Addr).add j) = some u) := fun j u hj => by
    rw [add_at, row_cell (by rw [hwA]; exact heap_alloc_last w _)]
    simpa using hj
  obtain ⟨p0, p1⟩ : w.cell? ⟨b, 0, none⟩ = some vl ∧ w.cell? ⟨b, 1, none⟩ = some vw := ⟨by rw [row_cell H.cells]; rfl, by rw [row_cell H.cells]; rfl⟩
  have HWA : Hid (w.alloc (.cells #[.slice a bs.length c] 39) = wA) := hwA.symm
  clear H hv hnew hby hna hbA hsA hwA
  go_enter Try.func35, Try.ntmps35
  go_wp2_with (first
    | (at_builtin; rw [HWA.out]; refine wpList_append_lies _ rfl _ _ 28 rfl base 39 i0 (.slice none 0 0) 1 24 Try.underlying28 hi hz0 hz1 hz2 rfl (by decide) vl items.length (items.map (·.1)) rfl HLA.out ⟨w.heap.size, 0, none⟩ 1 1 [.slice a bs.length c] rfl rfl HNEW.out (slice_oneB _ _ _) (by decide) (by unfold maxLen; omega) (by omega) (Nat.le_trans hbase HBA.out.size) _ rfl ?_
       intro g1 c1 w1 ho1 hg1 hat1 hlt1
       have HO1 : Hid (w1.ownsRow base 39 1 (.slice (some ⟨g1, 0, none⟩) (items.length + 1) c1) (items.length + 1) (items.map (·.1) ++ [.slice a bs.length c])) := ho1
       have HG1 : Hid (wA.grownBy w1 vl.ownBlock) := hg1
       have HAT1 : Hid (vl.ownBlock = some g1 ∨ g1 = wA.heap.size) := hat1
       have hb1 : w1.heap[b]? = some (.cells #[vl, vw, ve] 31 (0, 0)) := by
         rw [hg1.block b (Nat.lt_of_lt_of_le hlb HBA.out.size) (fun e => HH.out.not_l HH.out.cells (by decide) e.symm), HBA.out.block b hlb]
         exact HH.out.cells
       have HB1 : Hid _ := hb1
       have q0 : w1.cell? ⟨b, 0, none⟩ = some vl := by rw [row_cell hb1]; rfl
       have f0 := row_frozen hb1 0
       clear ho1 hg1 hat1 hlt1 hb1))
  obtain ⟨w2, hw2⟩ : ∃ w2, w2 = w1.setCell ⟨b, 0, none⟩ (.slice (some ⟨g1, 0, none⟩) (items.length + 1) c1) := ⟨_, rfl⟩
  have hb2 : w2.heap[b]? = some (.cells #[.slice (some ⟨g1, 0, none⟩) (items.length + 1) c1, vw, ve] 31 (0, 0)) := by rw [hw2, heap_set_same _ HB1.out]; rfl
  have ho2 : ∀ k : Nat, k ≠ b → w2.heap[k]? = w1.heap[k]? := fun k hk => by rw [hw2, heap_set_other _ hk]
  have hs2 : w2.heap.size = w1.heap.size := by rw [hw2]; simp
  have hz2' : w2.os = w1.os ∧ w2.tape = w1.tape ∧ w2.output = w1.output := by rw [hw2]; exact ⟨rfl, rfl, rfl⟩
  rw [← hw2]
  have HB2 : Hid _ := hb2
  have HO2 : Hid _ := ho2
  have HS2 : Hid _ := hs2
  have HZ2 : Hid _ := hz2'
  have r1 : w2.cell? ⟨b, 1, none⟩ = some vw := by rw [row_cell hb2]; rfl
  have hbl2 : b < w2.heap.size := (Array.getElem?_eq_some_iff.1 hb2).1
  -- old blocks, but for the list's
  have hK2 : ∀ k : Nat, k < w.heap.size → k ≠ b → vl.ownBlock ≠ some k → w2.heap[k]? = w.heap[k]? := fun k hk hkb hkl => by
    rw [ho2 k hkb, HG1.out.block k (Nat.lt_of_lt_of_le hk HBA.out.size) (fun e => hkl e.symm), HBA.out.block k hk]
  have HK2 : Hid _ := hK2
  have hsz2 : w.heap.size < w2.heap.size := by rw [hs2]; have := HG1.out.size; have := HSA.out; omega
  have HSZ2 : Hid (w.heap.size < w2.heap.size) := hsz2
  have HBY2 : Hid (BytesAt w2.heap.size w2 a bs) := by
    intro j x hj
    obtain ⟨g, off, e, hg, hc⟩ := HBY.out j x hj
    subst e
    have hob : (Value.slice (some (⟨g, off, none⟩ : Addr)) bs.length c).ownBlock = some g := rfl
    obtain ⟨_, _, cur, hcur⟩ := own_type HV.out g hob
    refine ⟨g, off, rfl, by omega, ?_⟩
    have : w2.heap[g]? = w.heap[g]? := hK2 g hg (HH.out.not_b hcur (by decide)) (HH.out.not_l hcur (by decide))
    rw [World.cell?_of_block (a := ⟨g, off + j, none⟩) this]
    exact hc
  have HWW2 : Hid (w2.ownsRow base 39 1 vw items.length was) := own_same HH.out.rowW fun k hk hl => hK2 k hl (fun e => by subst e; obtain ⟨_, _, c', hc'⟩ := own_type HH.out.rowW k hk; exact absurd (tagB_ne hc' HH.out.cells) (by decide)) (fun e => HH.out.apart k e hk)
  clear hw2 hb2 ho2 hs2 hz2' hK2 hsz2 q0 f0 p0 p1
  go_region_law
    (first
      | (refine step_append_bytes (by rfl) _ _ (by rfl) w2.heap.size w2.heap.size 0 0 [] (by rfl) (by exact owns_empty w2) a c bs.length bs rfl (by rfl) (by exact HBY2.out.here (((Below.refl w2.heap.size w2).alloc (Nat.le_refl _) (.cells #[] 5)).drew)) HNA.out (by omega) (by simp) ?_
         intro g3 c3 w3 ho3 hg3
         have hb3 : Below w2.heap.size w2 w3 := (((Below.refl w2.heap.size w2).alloc (Nat.le_refl _) (.cells #[] 5)).drew).grown hg3 (by simp) (fun k e => by cases e; exact Nat.le_refl _)
         have HO3 : Hid (w3.ownsRow w2.heap.size 5 1 (.slice (some ⟨g3, 0, none⟩) (0 + bs.length) c3) (0 + bs.length) (([] ++ bs).map encB)) := ho3
         have HB3 : Hid (Below w2.heap.size w2 w3) := hb3
         have s1 : w3.cell? ⟨b, 1, none⟩ = some vw := by rw [hb3.cell hbl2]; exact r1
         have s2 : ∀ o, (w3.alloc o).cell? ⟨b, 1, none⟩ = some vw := fun o => by rw [((Below.refl w2.heap.size w3).alloc hb3.size o).cell hbl2]; exact s1
         clear ho3 hg3 hb3)
      | (refine step_append_lies _ (by rfl) _ _ 28 (by rfl) base 39 i0 (.slice none 0 0) 1 24 Try.underlying28 hi hz0 hz1 hz2 rfl (by decide) vw items.length was (by rfl) (by exact own_same HWW2.out fun k _ hk => by rw [Below.heap_alloc _ _ _ (Nat.lt_of_lt_of_le hk HB3.out.size)]; exact HB3.out.block k hk) ⟨w3.heap.size, 0, none⟩ 1 1 [.slice (some ⟨g3, 0, none⟩) (0 + bs.length) c3] (by rfl) rfl (fun j u hj => by rw [add_at, row_cell (heap_alloc_last w3 _)]; simpa using hj) (slice_oneB _ _ _) (by decide) (by unfold maxLen; omega) (by omega) (by have := HB3.out.size; have := HSZ2.out; simp; omega) _ rfl ?_
         intro g4 c4 w4 ho4 hg4 hat4 hlt4
         have hb4 : w4.heap[b]? = some (.cells #[.slice (some ⟨g1, 0, none⟩) (items.length + 1) c1, vw, ve] 31 (0, 0)) := by
           rw [hg4.block b (by have := HB3.out.size; simp; omega) (fun e => HH.out.not_w HH.out.cells (by decide) e.symm), Below.heap_alloc _ _ _ (Nat.lt_of_lt_of_le hbl2 HB3.out.size), HB3.out.block b hbl2]
           exact HB2.out
         have HO4 : Hid (w4.ownsRow base 39 1 (.slice (some ⟨g4, 0, none⟩) (items.length + 1) c4) (items.length + 1) (was ++ [.slice (some ⟨g3, 0, none⟩) (0 + bs.length) c3])) := ho4
         have HG4 : Hid ((w3.alloc (.cells #[.slice (some ⟨g3, 0, none⟩) bs.length c3] 39)).grownBy w4 vw.ownBlock) := hg4
         have HAT4 : Hid (vw.ownBlock = some g4 ∨ g4 = (w3.alloc (.cells #[.slice (some ⟨g3, 0, none⟩) bs.length c3] 39)).heap.size) := hat4
         have HB4 : Hid _ := hb4
         have t1 : w4.cell? ⟨b, 1, none⟩ = some vw := by rw [row_cell hb4]; rfl
         have tf := row_frozen hb4 1
         clear ho4 hg4 hat4 hlt4 hb4))
  all_goals
    go_wp2
    go_end0
    exact ⟨rfl, keep_end HH.out HV.out HNW.out hbase HBA.out HSA.out HO1.out HG1.out HAT1.out HZ2.out HS2.out HO2.out HB3.out HO3.out HO4.out HG4.out HAT4.out HB4.out _ rfl⟩
end Go.Proofs.Ytgifnaahahfhbaa
