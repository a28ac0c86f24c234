/- Keys of new memory: anew. -/
import Derived.Test.YtaehchijeinloaaNums
namespace Go.Proofs.Ytaehchijeinloaa
open Go.RowKit

theorem madeBytes (n : Nat) : (madeCells (Value.cells (.int .u8 0)) (n * 1)).toList = List.replicate n (.int .u8 0) := by
  simp only [madeCells, Value.cells, Nat.mul_one]
  apply List.ext_getElem
  · simp
  · intro i h1 h2
    simp [Nat.mod_one]
theorem madeNils (n : Nat) : (madeCells (Value.cells (.slice none 0 0)) (n * 1)).toList = List.replicate n (.slice none 0 0) := by
  simp only [madeCells, Value.cells, Nat.mul_one]
  apply List.ext_getElem
  · simp
  · intro i h1 h2
    simp [Nat.mod_one]
theorem own_full {w : World} {base e g n : Nat} {xs : List Value} (h : w.ownsRow base e 1 (.slice (some ⟨g, 0, none⟩) n n) n xs) : w.heap[g]? = some (.cells xs.toArray e (0, 0)) := by
  obtain ⟨hl, hr⟩ := h
  rcases hr with ⟨e, _⟩ | ⟨g', cap, cur, e, _, hg, _, _, hs, ht⟩
  · cases e
  · cases e
    rw [hg, ← ht, List.take_of_length_le (by simp [hs])]
theorem copy_src {B : Nat} {w : World} {a : Option Addr} {bs : List UInt8} (hb : BytesAt B w a bs) (g o : Nat) :
    0 < (bs.map encB).length → some (⟨g, o, none⟩ : Addr) = some ⟨g, o, none⟩ ∧ ∃ ad, a = some ad ∧ ∀ (j : Nat) (v : Value), (bs.map encB)[j]? = some v → w.cell? (ad.add j) = some v := by
  intro hpos
  refine ⟨rfl, ?_⟩
  have h0 : 0 < bs.length := by simpa using hpos
  obtain ⟨c, hc⟩ : ∃ c, bs[0]? = some c := ⟨bs[0], List.getElem?_eq_getElem h0⟩
  obtain ⟨g, off, rfl, _, _⟩ := hb 0 c hc
  refine ⟨_, rfl, fun j v hv => ?_⟩
  rw [List.getElem?_map] at hv
  cases e : bs[j]? with
  | none => rw [e] at hv; cases hv
  | some b =>
    rw [e] at hv
    cases hv
    obtain ⟨g', off', e1, _, hcell⟩ := hb j b e
    cases e1
    rw [add_at]
    exact hcell
theorem oneB (bs : List UInt8) : ∀ v ∈ bs.map encB, v.oneCell' = true := fun v hv => by
  obtain ⟨b, _, rfl⟩ := List.mem_map.1 hv
  rfl
theorem splice_copy (k : Key) : splice (List.replicate k.length (Value.int .u8 0)) 0 (k.map encB) = k.map encB := by
  simp [splice, List.drop_replicate]
theorem own_block {w : World} {base e g n : Nat} {xs : List Value} (h : w.heap[g]? = some (.cells xs.toArray e (0, 0))) (hl : xs.length = n) (hb : base ≤ g) (hm : n ≤ maxLen) : w.ownsRow base e 1 (.slice (some ⟨g, 0, none⟩) n n) n xs :=
  ⟨by rw [hl, Nat.mul_one], .inr ⟨g, n, xs.toArray, rfl, hb, h, Nat.le_refl _, hm, by simp [hl], by simp [← hl]⟩⟩

/-- The blocks of some keys. -/
def blocks (F : List Kc) : List Nat := F.filterMap fun e => e.v.ownBlock
theorem blocks_append (F G : List Kc) : blocks (F ++ G) = blocks F ++ blocks G := by simp [blocks]
theorem mem_blocks {F : List Kc} {b : Nat} (h : b ∈ blocks F) : ∃ e ∈ F, e.v.ownBlock = some b := List.mem_filterMap.1 h
/-- A list of keys of new memory, each in a block of its own. -/
structure NewKeys (base : Nat) (w : World) (v : Value) (F : List Kc) : Prop where
  own : w.ownsRow base 27 1 v F.length (F.map Kc.v)
  keys : ∀ e ∈ F, NewKey base w e.v e.k
  apart : (blocks F).Nodup
theorem NewKeys.here {base : Nat} {w w' : World} {v : Value} {F : List Kc} (h : NewKeys base w v F) (hb : Below w.heap.size w w') : NewKeys base w' v F :=
  ⟨own_same h.own fun b _ hl => hb.block b hl, fun e he => (h.keys e he).here hb, h.apart⟩
theorem NewKeys.mono {base base' : Nat} {w : World} {v : Value} {F : List Kc} (h : NewKeys base w v F) (hb : base' ≤ base) : NewKeys base' w v F :=
  ⟨own_mono h.own hb, fun e he => (h.keys e he).mono hb, h.apart⟩
theorem NewKey.in {base : Nat} {w : World} {v : Value} {k : Key} (h : NewKey base w v k) : KeyIn w.heap.size w v k := h.at.in
theorem NewKeys.at {base : Nat} {w : World} {v : Value} {F : List Kc} (h : NewKeys base w v F) (hs : F.length * 24 ≤ 140737488420864) : KeysAt w.heap.size w v F :=
  ⟨own_cells h.own (by simp), hs, fun e he => (h.keys e he).in⟩
theorem NewKeys.nil (base : Nat) (w : World) : NewKeys base w (.slice none 0 0) [] := ⟨World.ownsRow_nil _ _ _ _, fun e he => by simp at he, by simp [blocks]⟩
theorem NewKeys.keep {base T B : Nat} {w w' : World} {v : Value} {F : List Kc} (h : NewKeys base w v F) (hk : Keep T B w w') (hT : 5 ≠ T) (hE : 27 ≠ T) : NewKeys base w' v F :=
  ⟨own_same h.own fun b hb _ => by
    obtain ⟨_, _, cur, hc⟩ := own_type h.own b hb
    rw [hc]; exact hk.typ _ _ _ _ hE hc, fun e he => (h.keys e he).keep hk hT, h.apart⟩
theorem NewInts.keep {base T B : Nat} {w w' : World} {v : Value} {ps : List Int} (h : NewInts base w v ps) (hk : Keep T B w w') (hT : 3 ≠ T) : NewInts base w' v ps :=
  ⟨own_same h.own fun b hb _ => by
    obtain ⟨_, _, cur, hc⟩ := own_type h.own b hb
    rw [hc]; exact hk.typ _ _ _ _ hT hc⟩

/-- The row while it is filled. -/
structure Fills (w : World) (wx : World) (L : List Kc) (k : Nat) (F : List Kc) : Prop where
  len : F.length = k
  keys : keysOf F = (keysOf L).take k
  row : wx.heap[w.heap.size]? = some (.cells (F.map Kc.v ++ List.replicate (L.length - k) (Value.slice none 0 0)).toArray 27 (0, 0))
  news : ∀ e ∈ F, NewKey w.heap.size wx e.v e.k
  apart : (blocks F).Nodup
  low : Below w.heap.size w wx
theorem Fills.step {w wx w0 w2 : World} {L F : List Kc} {k : Nat} {key : Key} (h : Fills w wx L k F) (hk : k < L.length) (hkey : (keysOf L)[k]? = some key) (hs : key.length ≤ 140737488355328)
    (h0 : Below wx.heap.size wx w0) (h2 : Below wx.heap.size (w0.setCell ⟨w.heap.size, k, none⟩ (.slice (some ⟨wx.heap.size, 0, none⟩) key.length key.length)) w2)
    (hr : w2.heap[wx.heap.size]? = some (.cells (key.map encB).toArray 5 (0, 0))) : Fills w w2 L (k + 1) (F ++ [⟨.slice (some ⟨wx.heap.size, 0, none⟩) key.length key.length, key⟩]) := by
  have hlt := (Array.getElem?_eq_some_iff.1 h.row).1
  have hlen := h.len
  have hlow : w.heap.size ≤ wx.heap.size := h.low.size
  have hrow0 : w0.heap[w.heap.size]? = _ := (h0.block _ hlt).trans h.row
  have hrow1 := heap_set_same (i := k) (Value.slice (some ⟨wx.heap.size, 0, none⟩) key.length key.length) hrow0
  have hrow2 := (h2.block _ hlt).trans hrow1
  have hkeep : Keep 27 w.heap.size wx (w0.setCell ⟨w.heap.size, k, none⟩ (.slice (some ⟨wx.heap.size, 0, none⟩) key.length key.length)) := (Keep.of h0 hlow).trans (keep_set hrow0 (Nat.le_refl _) _)
  have hsz1 : wx.heap.size ≤ (w0.setCell ⟨w.heap.size, k, none⟩ (.slice (some ⟨wx.heap.size, 0, none⟩) key.length key.length)).heap.size := by simpa using h0.size
  refine ⟨by simp [hlen], ?_, ?_, fun e he => ?_, ?_, ?_⟩
  · rw [List.take_add_one, hkey, ← h.keys]; simp [keysOf]
  · rw [hrow2]
    simp only [Option.some.injEq, Obj.cells.injEq, and_true]
    apply Array.ext'
    simp only [Array.toList_setIfInBounds, List.map_append, List.map_cons, List.map_nil]
    rw [List.set_append_right _ _ (by simp [hlen]), List.length_map, hlen, Nat.sub_self, show L.length - k = (L.length - (k + 1)) + 1 by omega, List.replicate_succ, List.set_cons_zero]
    simp
  · rcases List.mem_append.1 he with h' | h'
    · have hn := (h.news e h').keep hkeep (by decide)
      refine ⟨own_same hn.1 fun b hb _ => h2.block b ?_, hn.2⟩
      exact (own_type (h.news e h').1 b hb).1
    · simp at h'
      subst h'
      exact ⟨by have := own_block (base := w.heap.size) hr (n := key.length) (by simp) hlow (by unfold maxLen; omega); exact this, hs⟩
  · rw [blocks_append, List.nodup_append]
    refine ⟨h.apart, by simp [blocks, Value.ownBlock], fun a ha b hb e => ?_⟩
    obtain ⟨y, hy, hyb⟩ := mem_blocks ha
    have h3 := (own_type (h.news y hy).1 a hyb).1
    simp [blocks, Value.ownBlock] at hb
    omega
  · exact (h.low.trans hkeep.low).trans (h2.mono hlow)

theorem Fills.zero {w w0 : World} {L : List Kc} {base : Nat} (ho : w0.ownsRow base 27 1 (.slice (some ⟨w.heap.size, 0, none⟩) L.length L.length) L.length (List.replicate L.length (.slice none 0 0))) (hg : w.grownBy w0 none) : Fills w w0 L 0 [] :=
  ⟨rfl, by simp [keysOf], by simpa using own_full ho, fun e he => by simp at he, by simp [blocks], (Below.refl _ _).grown hg (Nat.le_refl _) fun k h => by cases h⟩
set_option maxHeartbeats 1600000 in
set_option maxRecDepth 100000 in
theorem copies_any {w : World} {v : Value} {L : List Kc} (h : KeysAt w.heap.size w v L) :
    Calls Try.prog 47 #[v] w fun r w' => ∃ v' F, r = .returned v' ∧ NewKeys w.heap.size w' v' F ∧ keysOf F = keysOf L ∧ Below w.heap.size w w' := by
  obtain ⟨i5, hi5, hz50, hz51, hz52⟩ := info5'
  obtain ⟨i0, hi, hz0, hz1, hz2⟩ := infoB'
  have hsz5 : (Try.prog.info? 5).map (·.size) = some 1 := by rw [hi5]; simp [hz51]
  have hs := h.short
  obtain ⟨a, c, rfl⟩ := h.form
  have HK : Hid (KeysAt w.heap.size w (.slice a L.length c) L) := h
  clear h
  go_enter Try.func47, Try.ntmps47
  go_wp2_with (at_make; refine wpList_make_full _ rfl _ _ 24 rfl w.heap.size 27 i0 (.slice none 0 0) 1 Try.underlying24 hi hz0 hz1 _ _ _ _ (L.length) rfl rfl (by omega) (by omega) (by rw [hz2]; omega) (by unfold maxLen; omega) (Nat.le_refl _) ?_
               intro w0 hown0 hg0
               rw [madeNils] at hown0
               have HF0 : Hid (Fills w w0 L 0 []) := Fills.zero hown0 hg0
               clear hown0 hg0)
  go_loopw [11] (fun i wx => ∃ (k : Nat) (F : List Kc), k ≤ L.length ∧ i = .int .i64 k ∧ Fills w wx L k F) (fun i _ => L.length - (intOf i).toNat)
  case atStart => exact ⟨0, [], by omega, rfl, HF0.out⟩
  case round =>
    obtain ⟨k, F, hk, rfl, hf⟩ := hrel
    have HF : Hid (Fills w wr L k F) := hf
    by_cases hlt : k < L.length
    · have hz : (k : Int) < (L.length : Int) := by omega
      obtain ⟨e, he⟩ : ∃ e, L[k]? = some e := ⟨_, List.getElem?_eq_getElem hlt⟩
      have hKr := HK.out.below hf.low
      obtain ⟨g, off, _, e1, hcell⟩ := hKr.cell k e he
      cases e1
      have hok := hKr.ok e (List.mem_of_getElem? he)
      have hsh := hok.short
      obtain ⟨ae, ce, e2⟩ := hok.form
      rw [e2] at hcell hok
      have HKE : Hid ((keysOf L)[k]? = some e.k) := keysOf_get he
      have HBY : Hid (BytesAt w.heap.size wr ae e.k) := by
        obtain ⟨⟨a', c', e1, hb, _⟩, _⟩ := hok; cases e1; exact hb
      have HLW : Hid (w.heap.size ≤ wr.heap.size) := hf.low.size
      have hmin : (e.k.map encB).length = Nat.min e.k.length e.k.length := by rw [List.length_map]; exact (Nat.min_self _).symm
      have hfit : 0 + (e.k.map encB).length ≤ (List.replicate (e.k.length) (Value.int .u8 0)).length := by simp
      have HRW : Hid (wr.heap[w.heap.size]? = _) := hf.row
      have hlw : w.heap.size < wr.heap.size := (Array.getElem?_eq_some_iff.1 hf.row).1
      have HNE : Hid (wr.heap.size ≠ w.heap.size) := by rw [Hid]; omega
      have HGET : Hid ((F.map Kc.v ++ List.replicate (L.length - k) (Value.slice none 0 0)).toArray[k]? = some (.slice none 0 0)) := by
        have := hf.len
        rw [Hid]
        simp [this, List.getElem?_append_right, List.getElem?_replicate]; omega
      clear hf hKr hok e2 he
      go_wp2_with (first
        | (at_make; refine wpList_make_full _ rfl _ _ 27 rfl wr.heap.size 5 i5 (.int .u8 0) 1 Try.underlying27 hi5 hz50 hz51 _ _ _ _ (e.k.length) rfl rfl (by omega) (by omega) (by rw [hz52]; omega) (by unfold maxLen; omega) (Nat.le_refl _) ?_
           intro w1 hown1 hg1
           rw [madeBytes] at hown1
           have HR1 : Hid (w1.heap[wr.heap.size]? = some (.cells (List.replicate (e.k.length) (Value.int .u8 0)).toArray 5 (0, 0))) := own_full hown1
           have HB1 : Hid (Below wr.heap.size wr w1) := (Below.refl _ _).grown hg1 (Nat.le_refl _) (fun k h => by cases h)
           have x0 : w1.cell? ⟨w.heap.size, k, none⟩ = some (.slice none 0 0) := by rw [HB1.out.cell hlw, row_cell HRW.out]; exact HGET.out
           have x1 : w1.frozen? ⟨w.heap.size, k, none⟩ = false := row_frozen ((HB1.out.block _ hlw).trans HRW.out) k
           clear hown1 hg1)
        | (refine wpList_copy_splice rfl _ _ 27 27 rfl 5 Try.underlying27 hsz5 _ _ _ _ _ _ rfl rfl wr.heap.size 0 (List.replicate (e.k.length) (Value.int .u8 0)) 5 ((heap_set_other _ HNE.out).trans HR1.out) (e.k.map encB) hmin (copy_src ((HBY.out.below (HB1.out.mono HLW.out)).below (Below.setCell (p := ⟨w.heap.size, k, none⟩) (Below.refl _ _) (Nat.le_refl _) _)) _ _) hfit (oneB e.k) wr.heap.size _ (Below.refl _ _) (Nat.le_refl _) ?_
           intro w2 hr2 hb2
           have HB2 : Hid _ := hb2
           clear hb2))
      rw [splice_copy] at hr2
      have HFS := HF.out.step hlt HKE.out hsh HB1.out HB2.out hr2.out
      exact ⟨⟨k + 1, _, by omega, by go_num, HFS⟩, by simp [intOf]; omega⟩
    · have hz : ¬ (k : Int) < (L.length : Int) := by omega
      have hkl : k = L.length := by omega
      have HR : Hid (NewKeys w.heap.size wr (.slice (some ⟨w.heap.size, 0, none⟩) L.length L.length) F ∧ keysOf F = keysOf L) := by
        have h1 := HF.out.len
        have h2 := HF.out.row
        have h3 := HF.out.keys
        rw [hkl, Nat.sub_self] at h2
        rw [hkl, List.take_of_length_le (by rw [keysOf_length]; omega)] at h3
        refine ⟨⟨?_, HF.out.news, HF.out.apart⟩, h3⟩
        have := own_block (base := w.heap.size) (n := L.length) h2 (by simp [h1, hkl]) (Nat.le_refl _) (by unfold maxLen; omega)
        rw [show F.length = L.length by omega]
        simpa using this
      have HLO : Hid (Below w.heap.size w wr) := hf.low
      clear hf hkl
      go_wp2
      go_ret
      exact ⟨_, rfl, F, HR.out.1, HR.out.2, HLO.out⟩
end Go.Proofs.Ytaehchijeinloaa
