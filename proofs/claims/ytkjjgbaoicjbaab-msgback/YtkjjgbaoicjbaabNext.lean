/- Next. -/
import Derived.Test.YtkjjgbaoicjbaabMinus
import Derived.Laws.CopyOwn
namespace Go.Proofs.Ytkjjgbaoicjbaab
open Go.RowKit

theorem madeBytes (n : Nat) : (madeCells (Value.cells (.int .u8 0)) (n * 1)).toList = List.replicate n (.int .u8 0) := by
  simp only [madeCells, Value.cells, Nat.mul_one]
  apply List.ext_getElem
  · simp
  · intro i h1 h2
    simp [Nat.mod_one]
theorem own_full {w : World} {base g n : Nat} {xs : List Value} (h : w.ownsRow base 5 1 (.slice (some ⟨g, 0, none⟩) n n) n xs) : w.heap[g]? = some (.cells xs.toArray 5 (0, 0)) := by
  obtain ⟨hl, hr⟩ := h
  rcases hr with ⟨e, _⟩ | ⟨g', cap, cur, e, _, hg, _, _, hs, ht⟩
  · cases e
  · cases e
    rw [hg, ← ht, List.take_of_length_le (by simp [hs])]
theorem copy_src {B : Nat} {w : World} {a : Option Addr} {bs : List UInt8} (hb : BytesAt B w a bs) (g o : Nat) :
    0 < (bs.map encB).length → some (⟨g, o, none⟩ : Addr) = some ⟨g, o, none⟩ ∧ ∃ ad, a = some ad ∧ ∀ (j : Nat) (v : Value), (bs.map encB)[j]? = some v → w.cell? (ad.add j) = some v := by
  intro hpos
  refine ⟨rfl, ?_⟩
  have h0 : 0 < bs.length := by simpa using hpos
  obtain ⟨c, hc⟩ : ∃ c, bs[0]? = some c := ⟨bs[0], List.getElem?_eq_getElem h0⟩
  obtain ⟨g, off, rfl, _, _⟩ := hb 0 c hc
  refine ⟨_, rfl, fun j v hv => ?_⟩
  rw [List.getElem?_map] at hv
  cases e : bs[j]? with
  | none => rw [e] at hv; cases hv
  | some b =>
    rw [e] at hv
    cases hv
    obtain ⟨g', off', e1, _, hcell⟩ := hb j b e
    cases e1
    rw [add_at]
    exact hcell
theorem oneB (bs : List UInt8) : ∀ v ∈ bs.map encB, v.oneCell' = true := fun v hv => by
  obtain ⟨b, _, rfl⟩ := List.mem_map.1 hv
  rfl
theorem splice_next (k : Key) : splice (List.replicate (k.length + 1) (Value.int .u8 0)) 0 (k.map encB) = (k ++ [0]).map encB := by
  simp [splice, encB, List.drop_replicate]
theorem own_block {w : World} {base g n : Nat} {xs : List Value} (h : w.heap[g]? = some (.cells xs.toArray 5 (0, 0))) (hl : xs.length = n) (hb : base ≤ g) (hm : n ≤ maxLen) : w.ownsRow base 5 1 (.slice (some ⟨g, 0, none⟩) n n) n xs :=
  ⟨by rw [hl, Nat.mul_one], .inr ⟨g, n, xs.toArray, rfl, hb, h, Nat.le_refl _, hm, by simp [hl], by simp [← hl]⟩⟩

set_option maxHeartbeats 800000 in
set_option maxRecDepth 100000 in
theorem next_any {w : World} {v : Value} {k : Key} (h : KeyAt w v k) (hk : k.length + 1 ≤ 140737488355328) :
    Calls Try.prog 91 #[v] w fun e w' => ∃ v', e = .returned v' ∧ NewKey w.heap.size w' v' (k ++ [0]) ∧ Below w.heap.size w w' := by
  obtain ⟨i0, hi, hz0, hz1, hz2⟩ := info5'
  have hsz5 : (Try.prog.info? 5).map (·.size) = some 1 := by rw [hi]; simp [hz1]
  obtain ⟨⟨a, c, rfl, hb, _⟩, _⟩ := h
  have HB : Hid (BytesAt w.heap.size w a k) := hb
  clear hb
  have hmin : (k.map encB).length = Nat.min k.length (k.length + 1) := by rw [List.length_map]; exact (Nat.min_eq_left (by omega)).symm
  have hfit : 0 + (k.map encB).length ≤ (List.replicate (k.length + 1) (Value.int .u8 0)).length := by simp
  go_enter Try.func91, Try.ntmps91
  go_wp2_with (first
    | (at_make; refine wpList_make_full _ rfl _ _ 23 rfl w.heap.size 5 i0 (.int .u8 0) 1 Try.underlying23 hi hz0 hz1 _ _ _ _ (k.length + 1) rfl rfl (by omega) (by omega) (by rw [hz2]; omega) (by unfold maxLen; omega) (Nat.le_refl _) ?_
       intro w0 hown0 hg0
       rw [madeBytes] at hown0
       have HR0 : Hid (w0.heap[w.heap.size]? = some (.cells (List.replicate (k.length + 1) (Value.int .u8 0)).toArray 5 (0, 0))) := own_full hown0
       have HB0 : Hid (Below w.heap.size w w0) := (Below.refl _ _).grown hg0 (Nat.le_refl _) (fun k h => by cases h)
       clear hown0 hg0)
    | (refine wpList_copy_splice rfl _ _ 23 23 rfl 5 Try.underlying23 hsz5 _ _ _ _ _ _ rfl rfl w.heap.size 0 (List.replicate (k.length + 1) (Value.int .u8 0)) 5 HR0.out (k.map encB) hmin (copy_src (HB.out.below HB0.out) _ _) hfit (oneB k) w.heap.size w HB0.out (Nat.le_refl _) ?_
       intro w2 hr2 hb2
       have HB2 : Hid (Below w.heap.size w w2) := hb2
       clear hb2))
  go_ret
  rw [splice_next] at hr2
  have hl : (k ++ [0]).length = k.length + 1 := by simp
  refine ⟨_, rfl, ⟨?_, by rw [hl]; exact hk⟩, HB2.out⟩
  have := own_block (base := w.heap.size) hr2.out (n := k.length + 1) (by simp) (Nat.le_refl _) (by unfold maxLen; omega)
  rw [hl]
  exact this

end Go.Proofs.Ytkjjgbaoicjbaab
