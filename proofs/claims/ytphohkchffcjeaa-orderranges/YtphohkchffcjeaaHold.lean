/- The law's Book, in a Lot: what it is, and hold: one more. -/
import Derived.Test.YtphohkchffcjeaaMarkApp
import Derived.Deep.RegionLaw
namespace Go.Proofs.Ytphohkchffcjeaa
open Go.RowKit

/-- A Book with bytes that came out, each a slice and what it must read as. -/
structure Book (w : World) (base b : Nat) (l0 l1 vl vw : Value) (items : List (Value × Key)) : Prop where
  cells : w.heap[b]? = some (.cells #[l0, l1, vl, vw] 31 (0, 0))
  low : base ≤ b
  rowL : w.ownsRow base 23 1 vl items.length (items.map (·.1))
  rowW : w.ownsRow base 9 1 vw items.length (items.map fun x => .string (strB x.2))
  item : ∀ (i : Nat) v bs, items[i]? = some (v, bs) → w.ownsRow base 5 1 v bs.length (bs.map encB)
  alone : ∀ (i j : Nat) v bs v' bs' k, items[i]? = some (v, bs) → items[j]? = some (v', bs') → v.ownBlock = some k → v'.ownBlock = some k → i = j

/-- Nothing but a Book's own lists has changed. -/
def KeptBut (b : Nat) (vl vw : Value) (w w' : World) : Prop := ∀ k : Nat, k < w.heap.size → k ≠ b → vl.ownBlock ≠ some k → vw.ownBlock ≠ some k → w'.heap[k]? = w.heap[k]?

theorem tag_eq {w : World} {k : Nat} {c c' : Array Value} {e e' : TypeId} {r r' : Nat × Nat} (h : w.heap[k]? = some (.cells c e r)) (h' : w.heap[k]? = some (.cells c' e' r')) : e = e' := by
  rw [h] at h'
  cases h'
  rfl
section
variable {w w' : World} {base b : Nat} {l0 l1 vl vw : Value} {items : List (Value × Key)} {k : Nat} {c : Array Value} {e : TypeId} {r : Nat × Nat}
theorem Book.not_b (h : Book w base b l0 l1 vl vw items) (hk : w.heap[k]? = some (.cells c e r)) (he : e ≠ 31) : k ≠ b := fun q => by
  subst q
  exact he (tag_eq hk h.cells)
theorem Book.not_l (h : Book w base b l0 l1 vl vw items) (hk : w.heap[k]? = some (.cells c e r)) (he : e ≠ 23) : vl.ownBlock ≠ some k := fun q => by
  obtain ⟨_, _, c', hc⟩ := own_type h.rowL k q
  exact he (tag_eq hk hc)
theorem Book.not_w (h : Book w base b l0 l1 vl vw items) (hk : w.heap[k]? = some (.cells c e r)) (he : e ≠ 9) : vw.ownBlock ≠ some k := fun q => by
  obtain ⟨_, _, c', hc⟩ := own_type h.rowW k q
  exact he (tag_eq hk hc)
/-- Bytes and heads stay where a Book is kept. -/
theorem KeptBut.stays (hk : KeptBut b vl vw w w') (h : Book w base b l0 l1 vl vw items) (hc : w.heap[k]? = some (.cells c e r)) (h1 : e ≠ 31) (h2 : e ≠ 23) (h3 : e ≠ 9) : w'.heap[k]? = some (.cells c e r) := by
  rw [hk k (Array.getElem?_eq_some_iff.1 hc).1 (h.not_b hc h1) (h.not_l hc h2) (h.not_w hc h3)]
  exact hc
theorem KeptBut.bytes (hk : KeptBut b vl vw w w') (h : Book w base b l0 l1 vl vw items) {base' n : Nat} {v : Value} {xs : List Value} (ho : w.ownsRow base' 5 1 v n xs) : w'.ownsRow base' 5 1 v n xs :=
  own_same ho fun k hv _ => by
    obtain ⟨_, _, c, hc⟩ := own_type ho k hv
    rw [hk.stays h hc (by decide) (by decide) (by decide), hc]
theorem Book.moved (h : Book w base b l0 l1 vl vw items)
    (hb : w'.heap[b]? = w.heap[b]?) (hl : ∀ k, vl.ownBlock = some k → w'.heap[k]? = w.heap[k]?) (hw : ∀ k, vw.ownBlock = some k → w'.heap[k]? = w.heap[k]?)
    (hi : ∀ (i : Nat) v bs k, items[i]? = some (v, bs) → v.ownBlock = some k → w'.heap[k]? = w.heap[k]?) : Book w' base b l0 l1 vl vw items :=
  ⟨by rw [hb]; exact h.cells, h.low, own_same h.rowL fun k hk _ => hl k hk, own_same h.rowW fun k hk _ => hw k hk, fun i v bs hv => own_same (h.item i v bs hv) fun k hk _ => hi i v bs k hv hk, h.alone⟩
theorem Book.lt (h : Book w base b l0 l1 vl vw items) : b < w.heap.size := (Array.getElem?_eq_some_iff.1 h.cells).1
theorem Book.here (h : Book w base b l0 l1 vl vw items) (hb : Below w.heap.size w w') : Book w' base b l0 l1 vl vw items :=
  h.moved (hb.block _ h.lt) (fun k hk => hb.block _ (own_type h.rowL k hk).1) (fun k hk => hb.block _ (own_type h.rowW k hk).1) (fun i v bs k hv hk => hb.block _ (own_type (h.item i v bs hv) k hk).1)
end

theorem slice_one (a : Option Addr) (n c : Nat) : ∀ u ∈ [Value.slice a n c], u.oneCell' = true := fun u hu => by simp at hu; rw [hu]; rfl
theorem items_at {α : Type} (l : List α) (x y : α) (i : Nat) (h : (l ++ [x])[i]? = some y) : (i < l.length ∧ l[i]? = some y) ∨ (i = l.length ∧ y = x) := by
  by_cases hi : i < l.length
  · rw [List.getElem?_append_left hi] at h
    exact .inl ⟨hi, h⟩
  · rw [List.getElem?_append_right (by omega)] at h
    have hl := (List.getElem?_eq_some_iff.1 h).1
    simp at hl
    have e : i = l.length := by omega
    subst e
    simp at h
    exact .inr ⟨rfl, h.symm⟩
theorem infoBytes : (Try.prog.info? 23).map (fun i => (i.zero, i.size, i.bytes)) = some (some (.slice none 0 0), 1, 24) := by kernel_rfl
theorem infoBytes' : ∃ i, Try.prog.info? 23 = some i ∧ i.zero = some (.slice none 0 0) ∧ i.size = 1 ∧ i.bytes = 24 := by
  have h := infoBytes
  cases hi : Try.prog.info? 23 with
  | none => rw [hi] at h; simp at h
  | some i => rw [hi] at h; simp at h; exact ⟨i, rfl, h⟩
theorem infoStr : (Try.prog.info? 9).map (fun i => (i.zero, i.size, i.bytes)) = some (some (.string ByteArray.empty), 1, 16) := by kernel_rfl
theorem infoStr' : ∃ i, Try.prog.info? 9 = some i ∧ i.zero = some (.string ByteArray.empty) ∧ i.size = 1 ∧ i.bytes = 16 := by
  have h := infoStr
  cases hi : Try.prog.info? 9 with
  | none => rw [hi] at h; simp at h
  | some i => rw [hi] at h; simp at h; exact ⟨i, rfl, h⟩

theorem hold_end {w wA w1 w2 w3 w4 : World} {base b : Nat} {l0 l1 vl vw : Value} {items : List (Value × Key)} {a : Option Addr} {c : Nat} {bs : Key} {g1 c1 g4 c4 : Nat}
    (H : Book w base b l0 l1 vl vw items) (hv : w.ownsRow base 5 1 (.slice a bs.length c) bs.length (bs.map encB))
    (hnew : ∀ (i : Nat) v' bs' k, items[i]? = some (v', bs') → (Value.slice a bs.length c).ownBlock = some k → v'.ownBlock ≠ some k) (hbase : base ≤ w.heap.size)
    (hbA : Below w.heap.size w wA) (hsA : wA.heap.size = w.heap.size + 1)
    (ho1 : w1.ownsRow base 23 1 (.slice (some ⟨g1, 0, none⟩) (items.length + 1) c1) (items.length + 1) (items.map (·.1) ++ [.slice a bs.length c])) (hg1 : wA.grownBy w1 vl.ownBlock) (hat1 : vl.ownBlock = some g1 ∨ g1 = wA.heap.size)
    (hz2 : w2.os = w1.os ∧ w2.tape = w1.tape ∧ w2.output = w1.output) (hs2 : w2.heap.size = w1.heap.size) (hk2 : ∀ k : Nat, k ≠ b → w2.heap[k]? = w1.heap[k]?)
    (hb3 : Below w2.heap.size w2 w3)
    (ho4 : w4.ownsRow base 9 1 (.slice (some ⟨g4, 0, none⟩) (items.length + 1) c4) (items.length + 1) ((items.map fun x => .string (strB x.2)) ++ [.string (strB bs)])) (hg4 : w3.grownBy w4 vw.ownBlock)
    (hb4 : w4.heap[b]? = some (.cells #[l0, l1, .slice (some ⟨g1, 0, none⟩) (items.length + 1) c1, vw] 31 (0, 0))) (w5 : World) (h5 : w5 = w4.setCell ⟨b, 3, none⟩ (.slice (some ⟨g4, 0, none⟩) (items.length + 1) c4)) :
    (∃ vl' vw', Book w5 base b l0 l1 vl' vw' (items ++ [(.slice a bs.length c, bs)])) ∧ KeptBut b vl vw w w5 ∧ Below base w w5 := by
  have hbl : b < w.heap.size := H.lt
  have hz1 := hg1.size
  have hz3 := hb3.size
  have hz4 := hg4.size
  have hz5 : w5.heap.size = w4.heap.size := by rw [h5]; simp
  have k54 : ∀ k : Nat, k ≠ b → w5.heap[k]? = w4.heap[k]? := fun k hk => by rw [h5, heap_set_other _ hk]
  have k43 : ∀ k : Nat, k < w3.heap.size → vw.ownBlock ≠ some k → w4.heap[k]? = w3.heap[k]? := fun k hk hkw => hg4.block k hk (fun e => hkw e.symm)
  have k51 : ∀ k : Nat, k < w2.heap.size → k ≠ b → vw.ownBlock ≠ some k → w5.heap[k]? = w1.heap[k]? := fun k hk hkb hkw => by
    rw [k54 k hkb, k43 k (by omega) hkw, hb3.block k hk, hk2 k hkb]
  have K5 : KeptBut b vl vw w w5 := fun k hk hkb hkl hkw => by
    rw [k51 k (by omega) hkb hkw, hg1.block k (by omega) (fun e => hkl e.symm), hbA.block k hk]
  have hwl : ∀ k, vw.ownBlock = some k → k < w.heap.size := fun k hk => (own_type H.rowW k hk).1
  have hg1b : g1 ≠ b := fun e => by
    rcases hat1 with h | h
    · exact H.not_l H.cells (by decide) (by rw [← e]; exact h)
    · omega
  have hg1w : vw.ownBlock ≠ some g1 := fun e => by
    rcases hat1 with h | h
    · obtain ⟨_, _, c', hc'⟩ := own_type H.rowL g1 h
      exact H.not_w hc' (by decide) e
    · have := hwl g1 e; omega
  have hg1l : g1 < w1.heap.size := (own_type ho1 g1 rfl).1
  have hg4b : g4 ≠ b := fun e => by
    subst e
    obtain ⟨_, _, c', hc'⟩ := own_type ho4 g4 rfl
    exact absurd (tag_eq hc' hb4) (by decide)
  refine ⟨⟨.slice (some ⟨g1, 0, none⟩) (items.length + 1) c1, .slice (some ⟨g4, 0, none⟩) (items.length + 1) c4, ?_⟩, K5, ?_⟩
  · have hlen : (items ++ [(Value.slice a bs.length c, bs)]).length = items.length + 1 := by simp
    refine ⟨by rw [h5, heap_set_same _ hb4]; rfl, H.low, ?_, ?_, ?_, ?_⟩
    · rw [hlen, List.map_append]
      exact own_same ho1 fun k hk _ => by cases hk; exact k51 g1 (by omega) hg1b hg1w
    · rw [hlen, List.map_append]
      exact own_same ho4 fun k hk _ => by cases hk; exact k54 g4 hg4b
    · intro i v' bs' hi
      rcases items_at _ _ _ _ hi with ⟨_, h⟩ | ⟨_, h⟩
      · exact K5.bytes H (H.item i v' bs' h)
      · cases h
        exact K5.bytes H hv
    · intro i j v1 b1 v2 b2 k hi hj h1 h2
      rcases items_at _ _ _ _ hi with ⟨_, hi'⟩ | ⟨ei, hi'⟩
      · rcases items_at _ _ _ _ hj with ⟨_, hj'⟩ | ⟨_, hj'⟩
        · exact H.alone i j v1 b1 v2 b2 k hi' hj' h1 h2
        · cases hj'
          exact absurd h1 (hnew i v1 b1 k hi' h2)
      · rcases items_at _ _ _ _ hj with ⟨_, hj'⟩ | ⟨ej, _⟩
        · cases hi'
          exact absurd h2 (hnew j v2 b2 k hj' h1)
        · omega
  · refine ⟨?_, ?_, ?_, by omega, fun k hk => K5 k (by omega) (by have := H.low; omega) (fun e => by have := (own_type H.rowL k e).2.1; omega) (fun e => by have := (own_type H.rowW k e).2.1; omega)⟩
    · rw [h5]; exact hg4.os.trans (hb3.os.trans (hz2.1.trans (hg1.os.trans hbA.os)))
    · rw [h5]; exact hg4.tape.trans (hb3.tape.trans (hz2.2.1.trans (hg1.tape.trans hbA.tape)))
    · rw [h5]; exact hg4.output.trans (hb3.output.trans (hz2.2.2.trans (hg1.output.trans hbA.output)))

set_option maxHeartbeats 1600000 in
set_option maxRecDepth 100000 in
theorem hold_any {w : World} {base b : Nat} {l0 l1 vl vw : Value} {items : List (Value × Key)} {v u : Value} {bs : Key} (H : Book w base b l0 l1 vl vw items) (hv : w.ownsRow base 5 1 v bs.length (bs.map encB)) (hu : NewKey base w u bs)
    (hnew : ∀ (i : Nat) v' bs' k, items[i]? = some (v', bs') → v.ownBlock = some k → v'.ownBlock ≠ some k) (hil : items.length ≤ 1000000) (hbase : base ≤ w.heap.size) :
    Calls Try.prog 32 #[.pointer (some ⟨b, 2, none⟩), v, u] w fun e w' => e = .returned (.tuple #[]) ∧ (∃ vl' vw', Book w' base b l0 l1 vl' vw' (items ++ [(v, bs)])) ∧ KeptBut b vl vw w w' ∧ Below base w w' := by
  obtain ⟨i0, hi, hz0, hz1, hz2⟩ := infoBytes'
  obtain ⟨i1, hi1, hy0, hy1, hy2⟩ := infoStr'
  obtain ⟨a, c, rfl, hby, _⟩ := bytes_own hv
  obtain ⟨a1, c1, rfl, _⟩ := hu.at.is
  have HH : Hid _ := H
  have HV : Hid _ := hv
  have HU : Hid _ := hu
  have HNW : Hid _ := hnew
  have hlb : b < w.heap.size := H.lt
  obtain ⟨wA, hwA⟩ : ∃ wA, wA = w.alloc (.cells #[.slice a bs.length c] 23) := ⟨_, rfl⟩
  have hbA : Below w.heap.size w wA := by rw [hwA]; exact (Below.refl _ _).alloc (Nat.le_refl _) _
  have hsA : wA.heap.size = w.heap.size + 1 := by rw [hwA]; simp
  have HBA : Hid (Below w.heap.size w wA) := hbA
  have HSA : Hid (wA.heap.size = w.heap.size + 1) := hsA
  have HLA : Hid (wA.ownsRow base 23 1 vl items.length (items.map (·.1))) := own_same H.rowL fun k _ hk => hbA.block k hk
  have HNEW : Hid (∀ (j : Nat) (u : Value), [Value.slice a bs.length c][j]? = some u → wA.cell? ((⟨w.heap.size, 0, none⟩ : Addr).add j) = some u) := fun j u hj => by
    rw [add_at, row_cell (by rw [hwA]; exact heap_alloc_last w _)]
    simpa using hj
  obtain ⟨p0, p1⟩ : w.cell? ⟨b, 2, none⟩ = some vl ∧ w.cell? ⟨b, 3, none⟩ = some vw := ⟨by rw [row_cell H.cells]; rfl, by rw [row_cell H.cells]; rfl⟩
  have HWA : Hid (w.alloc (.cells #[.slice a bs.length c] 23) = wA) := hwA.symm
  clear H hv hnew hby hbA hsA hwA hu
  go_enter Try.func32, Try.ntmps32
  go_wp2_with (first
    | (at_builtin; rw [HWA.out]; refine wpList_append_lies _ rfl _ _ 26 rfl base 23 i0 (.slice none 0 0) 1 24 Try.underlying26 hi hz0 hz1 hz2 rfl (by decide) vl items.length (items.map (·.1)) rfl HLA.out ⟨w.heap.size, 0, none⟩ 1 1 [.slice a bs.length c] rfl rfl HNEW.out (slice_one _ _ _) (by decide) (by unfold maxLen; omega) (by omega) (Nat.le_trans hbase HBA.out.size) _ rfl ?_
       intro g1 c2 w1 ho1 hg1 hat1 hlt1
       have HO1 : Hid (w1.ownsRow base 23 1 (.slice (some ⟨g1, 0, none⟩) (items.length + 1) c2) (items.length + 1) (items.map (·.1) ++ [.slice a bs.length c])) := ho1
       have HG1 : Hid (wA.grownBy w1 vl.ownBlock) := hg1
       have HAT1 : Hid (vl.ownBlock = some g1 ∨ g1 = wA.heap.size) := hat1
       have hb1 : w1.heap[b]? = some (.cells #[l0, l1, vl, vw] 31 (0, 0)) := by
         rw [hg1.block b (Nat.lt_of_lt_of_le hlb HBA.out.size) (fun e => HH.out.not_l HH.out.cells (by decide) e.symm), HBA.out.block b hlb]
         exact HH.out.cells
       have HB1 : Hid _ := hb1
       have q0 : w1.cell? ⟨b, 2, none⟩ = some vl := by rw [row_cell hb1]; rfl
       have f0 := row_frozen hb1 2
       clear ho1 hg1 hat1 hlt1 hb1))
  obtain ⟨w2, hw2⟩ : ∃ w2, w2 = w1.setCell ⟨b, 2, none⟩ (.slice (some ⟨g1, 0, none⟩) (items.length + 1) c2) := ⟨_, rfl⟩
  have hb2 : w2.heap[b]? = some (.cells #[l0, l1, .slice (some ⟨g1, 0, none⟩) (items.length + 1) c2, vw] 31 (0, 0)) := by rw [hw2, heap_set_same _ HB1.out]; rfl
  have ho2 : ∀ k : Nat, k ≠ b → w2.heap[k]? = w1.heap[k]? := fun k hk => by rw [hw2, heap_set_other _ hk]
  have hs2 : w2.heap.size = w1.heap.size := by rw [hw2]; simp
  have hz2' : w2.os = w1.os ∧ w2.tape = w1.tape ∧ w2.output = w1.output := by rw [hw2]; exact ⟨rfl, rfl, rfl⟩
  rw [← hw2]
  have HB2 : Hid _ := hb2
  have HO2 : Hid _ := ho2
  have HS2 : Hid _ := hs2
  have HZ2 : Hid _ := hz2'
  have r1 : w2.cell? ⟨b, 3, none⟩ = some vw := by rw [row_cell hb2]; rfl
  have hbl2 : b < w2.heap.size := (Array.getElem?_eq_some_iff.1 hb2).1
  -- old blocks, but for the list's
  have hK2 : ∀ k : Nat, k < w.heap.size → k ≠ b → vl.ownBlock ≠ some k → w2.heap[k]? = w.heap[k]? := fun k hk hkb hkl => by
    rw [ho2 k hkb, HG1.out.block k (Nat.lt_of_lt_of_le hk HBA.out.size) (fun e => hkl e.symm), HBA.out.block k hk]
  have hsz2 : w.heap.size < w2.heap.size := by rw [hs2]; have := HG1.out.size; have := HSA.out; omega
  have HSZ2 : Hid (w.heap.size < w2.heap.size) := hsz2
  have hu2 : NewKey base w2 (.slice a1 bs.length c1) bs := ⟨own_same HU.out.own fun k hk hl => by
    obtain ⟨_, _, cur, hcur⟩ := own_type HU.out.own k hk
    exact hK2 k hl (HH.out.not_b hcur (by decide)) (HH.out.not_l hcur (by decide)), HU.out.short⟩
  have ecv : (convert 23 9 (.slice a1 bs.length c1)).run Try.prog w2.drew = .ok (.string (strB bs)) w2.drew := conv_key (hu2.at.here ((Below.refl _ _).drew))
  have HWW2 : Hid (w2.ownsRow base 9 1 vw items.length (items.map fun x => .string (strB x.2))) := own_same HH.out.rowW fun k hk hl => by
    obtain ⟨_, _, c', hc'⟩ := own_type HH.out.rowW k hk
    exact hK2 k hl (HH.out.not_b hc' (by decide)) (HH.out.not_l hc' (by decide))
  obtain ⟨S, hS⟩ : ∃ S, S = strB bs := ⟨_, rfl⟩
  have HS : Hid (S = strB bs) := hS
  rw [← hS] at ecv
  clear hw2 hb2 ho2 hs2 hz2' hK2 hsz2 q0 f0 p0 p1 hu2 hS
  go_region_law
    (first
      | (refine step_append_lies _ (by rfl) _ _ 27 (by rfl) base 9 i1 (.string ByteArray.empty) 1 16 Try.underlying27 hi1 hy0 hy1 hy2 rfl (by decide) vw items.length (items.map fun x => .string (strB x.2)) (by rfl) (by exact own_same HWW2.out fun k _ hk => ((below_new w2 (.cells #[.string S] 9)).drew).block k hk) ⟨w2.heap.size, 0, none⟩ 1 1 [.string S] (by rfl) rfl (fun j u hj => by rw [add_at]; exact (row_cell (heap_alloc_last w2 _) (0 + j)).trans (by simpa using hj)) (fun u hu => by simp at hu; rw [hu]; rfl) (by decide) (by unfold maxLen; omega) (by omega) (by have := HSZ2.out; simp; omega) _ rfl ?_
         intro g4 c4 w4 ho4 hg4 hat4 hlt4
         have hb3 : Below w2.heap.size w2 (w2.alloc (.cells #[.string S] 9)).drew := (below_new w2 _).drew
         have hb4 : w4.heap[b]? = some (.cells #[l0, l1, .slice (some ⟨g1, 0, none⟩) (items.length + 1) c2, vw] 31 (0, 0)) := by
           rw [hg4.block b (Nat.lt_of_lt_of_le hbl2 hb3.size) (fun e => HH.out.not_w HH.out.cells (by decide) e.symm), hb3.block b hbl2]
           exact HB2.out
         have HB3 : Hid _ := hb3
         have HO4 : Hid (w4.ownsRow base 9 1 (.slice (some ⟨g4, 0, none⟩) (items.length + 1) c4) (items.length + 1) ((items.map fun x => .string (strB x.2)) ++ [.string (strB bs)])) := by rw [← HS.out]; exact ho4
         have HG4 : Hid ((w2.alloc (.cells #[.string S] 9)).drew.grownBy w4 vw.ownBlock) := hg4
         have HB4 : Hid _ := hb4
         have t1 : w4.cell? ⟨b, 3, none⟩ = some vw := by rw [row_cell hb4]; rfl
         have tf := row_frozen hb4 3
         clear ho4 hg4 hat4 hlt4 hb4 hb3))
  all_goals
    go_wp2
    go_end0
    exact ⟨rfl, hold_end HH.out HV.out HNW.out hbase HBA.out HSA.out HO1.out HG1.out HAT1.out HZ2.out HS2.out HO2.out HB3.out HO4.out HG4.out HB4.out _ rfl⟩
end Go.Proofs.Ytphohkchffcjeaa
