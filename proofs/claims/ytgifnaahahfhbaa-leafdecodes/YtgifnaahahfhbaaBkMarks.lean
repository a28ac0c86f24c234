/- Rows that are filled with one mark; the law's 'mark' and 'full'; a byte more onto a row that others may share. -/
import Derived.Test.YtgifnaahahfhbaaShown
import Derived.ArgAppend
import Derived.Deep.AppendLies
namespace Go.Proofs.Ytgifnaahahfhbaa
open Go.RowKit

/-- Of one block cells have become the mark, no other block has changed. -/
structure Marked (q : Option Nat) (m : UInt8) (w w' : World) : Prop where
  os : w'.os = w.os
  tape : w'.tape = w.tape
  output : w'.output = w.output
  size : w.heap.size ≤ w'.heap.size
  other : ∀ k : Nat, k < w.heap.size → q ≠ some k → w'.heap[k]? = w.heap[k]?
  same : ∀ (k : Nat) (cur : Array Value), q = some k → w.heap[k]? = some (.cells cur 5 (0, 0)) → ∃ cur' : Array Value, w'.heap[k]? = some (.cells cur' 5 (0, 0)) ∧ cur'.size = cur.size ∧ ∀ j : Nat, cur'[j]? = cur[j]? ∨ cur'[j]? = some (encB m)

theorem Marked.refl (q : Option Nat) (m : UInt8) (w : World) : Marked q m w w := ⟨rfl, rfl, rfl, Nat.le_refl _, fun _ _ _ => rfl, fun _ cur _ h => ⟨cur, h, rfl, fun _ => .inl rfl⟩⟩
theorem Marked.trans {q : Option Nat} {m : UInt8} {a b c : World} (h : Marked q m a b) (k : Marked q m b c) : Marked q m a c :=
  ⟨k.os.trans h.os, k.tape.trans h.tape, k.output.trans h.output, Nat.le_trans h.size k.size,
    fun i hi hq => (k.other i (Nat.lt_of_lt_of_le hi h.size) hq).trans (h.other i hi hq),
    fun i cur hq hc => by
      obtain ⟨c1, h1, h2, h3⟩ := h.same i cur hq hc
      obtain ⟨c2, k1, k2, k3⟩ := k.same i c1 hq h1
      refine ⟨c2, k1, k2.trans h2, fun j => ?_⟩
      rcases k3 j with e | e
      · rcases h3 j with e' | e'
        · exact .inl (e.trans e')
        · exact .inr (e.trans e')
      · exact .inr e⟩
theorem Marked.of_below {q : Option Nat} {m : UInt8} {w w' : World} (h : Below w.heap.size w w') : Marked q m w w' :=
  ⟨h.os, h.tape, h.output, h.size, fun k hk _ => h.block k hk, fun k cur _ hc => ⟨cur, by rw [h.block k (Array.getElem?_eq_some_iff.1 hc).1]; exact hc, rfl, fun _ => .inl rfl⟩⟩
theorem Marked.step {q q2 : Option Nat} {m : UInt8} {a b c : World} (h : Marked q m a b) (k : Marked q2 m b c) (hq : q2 = q ∨ ∃ g, q2 = some g ∧ a.heap.size ≤ g) : Marked q m a c := by
  rcases hq with rfl | ⟨g, rfl, hg⟩
  · exact h.trans k
  · have hne : ∀ i, i < a.heap.size → some g ≠ some i := fun i hi e => by cases e; omega
    exact ⟨k.os.trans h.os, k.tape.trans h.tape, k.output.trans h.output, Nat.le_trans h.size k.size,
      fun i hi hq => (k.other i (Nat.lt_of_lt_of_le hi h.size) (hne i hi)).trans (h.other i hi hq),
      fun i cur hq hc => by
        have hi := (Array.getElem?_eq_some_iff.1 hc).1
        obtain ⟨c1, h1, h2, h3⟩ := h.same i cur hq hc
        exact ⟨c1, by rw [k.other i (Nat.lt_of_lt_of_le hi h.size) (hne i hi)]; exact h1, h2, h3⟩⟩
theorem Marked.set {q j : Nat} {m : UInt8} {w : World} : Marked (some q) m w (w.setCell ⟨q, j, none⟩ (encB m)) := by
  have hs : (w.setCell ⟨q, j, none⟩ (encB m)).heap.size = w.heap.size := by simp
  refine ⟨rfl, rfl, rfl, by rw [hs]; exact Nat.le_refl _, fun k _ hq => heap_set_other _ (fun e => hq (by rw [e])), fun k cur hq hc => ?_⟩
  cases hq
  refine ⟨_, heap_set_same (encB m) hc, by simp, fun i => ?_⟩
  rw [Array.getElem?_setIfInBounds]
  by_cases e : j = i
  · rw [if_pos e]
    by_cases hl : j < cur.size
    · rw [if_pos hl]; exact .inr rfl
    · rw [if_neg hl]
      exact .inl (by rw [← e, Array.getElem?_eq_none (by omega)])
  · rw [if_neg e]; exact .inl rfl
theorem Marked.drew {q : Option Nat} {m : UInt8} {w w' : World} (h : Marked q m w w') : Marked q m w w'.drew := ⟨h.os, h.tape, h.output, h.size, h.other, h.same⟩
theorem Marked.below {q : Option Nat} {m : UInt8} {w w' : World} (h : Marked q m w w') (B : Nat) (hB : B ≤ w.heap.size) (hq : ∀ k, q = some k → B ≤ k) : Below B w w' :=
  ⟨h.os, h.tape, h.output, h.size, fun k hk => h.other k (by omega) (fun e => by have := hq k e; omega)⟩

/-- A row of one mark stays one. -/
theorem Marked.row {q : Option Nat} {m : UInt8} {w w' : World} (h : Marked q m w w') {base n : Nat} {v : Value} (ho : w.ownsRow base 5 1 v n (List.replicate n (encB m))) : w'.ownsRow base 5 1 v n (List.replicate n (encB m)) := by
  obtain ⟨h1, h2⟩ := ho
  refine ⟨h1, ?_⟩
  rcases h2 with h2 | ⟨g, cap, cur, e, hb, hg, hc, hm, hs, ht⟩
  · exact .inl h2
  · right
    have hgl := (Array.getElem?_eq_some_iff.1 hg).1
    by_cases hq : q = some g
    · obtain ⟨cur', k1, k2, k3⟩ := h.same g cur hq hg
      refine ⟨g, cap, cur', e, hb, k1, hc, hm, by rw [k2]; exact hs, ?_⟩
      apply List.ext_getElem?
      intro j
      rw [List.getElem?_take, List.getElem?_replicate]
      by_cases hj : j < n
      · rw [if_pos (by omega), if_pos hj, Array.getElem?_toList]
        have hcj : cur[j]? = some (encB m) := by
          have := congrArg (fun l => l[j]?) ht
          simp only [List.getElem?_take, List.getElem?_replicate] at this
          rw [if_pos (by omega), if_pos hj, Array.getElem?_toList] at this
          exact this
        rcases k3 j with e' | e'
        · exact e'.trans hcj
        · exact e'
      · rw [if_neg (by omega), if_neg hj]
    · exact ⟨g, cap, cur, e, hb, by rw [h.other g hgl hq]; exact hg, hc, hm, hs, ht⟩
theorem Marked.keep {q : Option Nat} {m : UInt8} {w w' : World} (h : Marked q m w w') {base e n : Nat} {v : Value} {xs : List Value} (ho : w.ownsRow base e 1 v n xs) (hq : ∀ k, v.ownBlock = some k → q ≠ some k) : w'.ownsRow base e 1 v n xs :=
  own_same ho fun k hk hl => h.other k hl (hq k hk)
theorem bytes_own {w : World} {base n : Nat} {v : Value} {bs : List UInt8} (ho : w.ownsRow base 5 1 v n (bs.map encB)) : ∃ a c, v = .slice a n c ∧ BytesAt w.heap.size w a bs ∧ bs.length = n ∧ n ≤ c ∧ (a = none → c = 0) := by
  have hl : bs.length = n := by have := ho.1; simpa using this
  obtain ⟨_, h2⟩ := id ho
  rcases h2 with ⟨rfl, rfl⟩ | ⟨g, cap, cur, rfl, hb, hg, hc, _⟩
  · exact ⟨none, 0, rfl, bytes_row ho, hl, Nat.le_refl _, fun _ => rfl⟩
  · exact ⟨_, cap, rfl, bytes_row ho, hl, hc, fun h => by cases h⟩
theorem repl_enc (n : Nat) (m : UInt8) : List.replicate n (encB m) = (List.replicate n m).map encB := by simp

theorem oneB (bs : List UInt8) : ∀ v ∈ bs.map encB, v.oneCell' = true := fun v hv => by
  obtain ⟨b, _, rfl⟩ := List.mem_map.1 hv
  rfl
theorem owns_empty (w : World) : (w.alloc (.cells #[] 5)).ownsRow w.heap.size 5 1 (.slice (some ⟨w.heap.size, 0, none⟩) 0 0) 0 (([] : List UInt8).map encB) :=
  ⟨rfl, .inr ⟨w.heap.size, 0, #[], rfl, Nat.le_refl _, heap_alloc_last w _, Nat.le_refl _, Nat.zero_le _, rfl, rfl⟩⟩

def markOf (i : Nat) : UInt8 := UInt8.ofNat (1 + i % 251)
theorem mark_any (i : Nat) (w : World) (hi : i ≤ 140737488355328) : Calls Try.prog 37 #[.int .i64 (i : Int)] w fun e w' => e = .returned (.int .u8 ((markOf i).toNat : Int)) ∧ w' = w := by
  have HE : Hid (1 + (i : Int).tmod 251 = ((markOf i).toNat : Int)) := by
    show _ = _
    rw [Int.tmod_eq_emod_of_nonneg (by omega)]
    have : (markOf i).toNat = (1 + i % 251) % 256 := UInt8.toNat_ofNat'
    rw [this]
    omega
  have HE2 : Hid (1 + (i : Int) % 251 = ((markOf i).toNat : Int)) := by
    have := HE.out
    rw [Int.tmod_eq_emod_of_nonneg (by omega)] at this
    exact this
  go_enter Try.func37, Try.ntmps37
  go_wp2
  go_ret
  exact ⟨ret_int (by first | exact HE.out | exact HE2.out | (have := HE2.out; omega)), rfl⟩

set_option maxRecDepth 100000 in
theorem full_any (w : World) (a : Option Addr) (n cap : Nat) (m : UInt8) (hb : BytesAt w.heap.size w a (List.replicate n m)) (hlen : n ≤ 140737488355328) :
    Calls Try.prog 38 #[.slice a n cap, .int .u8 (m.toNat : Int)] w fun e w' => e = .returned (.bool true) ∧ w' = w := by
  have HB : Hid (BytesAt w.heap.size w a (List.replicate n m)) := hb
  clear hb
  go_enter Try.func38, Try.ntmps38
  go_wp2
  go_loopw [5] (fun i wx => ∃ k : Nat, k ≤ n ∧ i = .int .i64 k ∧ wx = w) (fun i _ => n - (intOf i).toNat)
  case atStart => exact ⟨0, by omega, rfl, rfl⟩
  case round =>
    obtain ⟨k, hk, rfl, rfl⟩ := hrel
    by_cases hlt : k < n
    · have hkz : (k : Int) < (n : Int) := by omega
      obtain ⟨g, off, rfl, _, hcell⟩ := HB.out k m (by simp [hlt])
      go_wp2
      exact ⟨⟨k + 1, by omega, by go_num, trivial⟩, by simp [intOf]; omega⟩
    · obtain rfl : k = n := by omega
      go_wp2
      go_ret
      exact ⟨rfl, rfl⟩
end Go.Proofs.Ytgifnaahahfhbaa
