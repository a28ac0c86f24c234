/- Cut. -/
import Derived.Test.YtgifnaahahfhbaaAnew
namespace Go.Proofs.Ytgifnaahahfhbaa
open Go.RowKit

theorem less_is (a b : List UInt8) : Op.bytesLess a b = decide (a < b) := by
  induction a generalizing b with
  | nil => cases b <;> simp [Op.bytesLess]
  | cons x r ih =>
    cases b with
    | nil => simp [Op.bytesLess]
    | cons y t =>
      simp only [Op.bytesLess, ih, List.cons_lt_cons_iff]
      by_cases h : x = y <;> simp [h]
theorem strB_list (a : Key) : (strB a).toList = a := by rw [ByteArray.toList_eq]; simp [strB]
theorem strB_lt (a b : Key) : Op.bytesLess (strB a).toList (strB b).toList = decide (a < b) := by rw [strB_list, strB_list, less_is]
/-- Cut's entries. -/
def cutE (r : Rg) (l : List En) : List En := l.filter fun e => !r.has e.k
theorem cutE_take {r : Rg} {l : List En} {i : Nat} {e : En} (h : l[i]? = some e) : cutE r (l.take (i + 1)) = cutE r (l.take i) ++ if r.has e.k then [] else [e] := by
  unfold cutE
  rw [List.take_add_one, h, List.filter_append]
  cases hh : r.has e.k <;> simp [hh]
theorem cutE_le (r : Rg) (l : List En) : (cutE r l).length ≤ l.length := List.length_filter_le _ _

/-- A block that holds a range. -/
structure Box (w : World) (b : Nat) (x y z : Value) : Prop where
  row : w.heap[b]? = some (.cells #[x, y, z] 49 (0, 0))
theorem Box.lt {w : World} {b : Nat} {x y z : Value} (h : Box w b x y z) : b < w.heap.size := (Array.getElem?_eq_some_iff.1 h.row).1
theorem Box.cells {w : World} {b : Nat} {x y z : Value} (h : Box w b x y z) : w.cell? ⟨b, 0, none⟩ = some x ∧ w.cell? ⟨b, 1, none⟩ = some y ∧ w.cell? ⟨b, 2, none⟩ = some z :=
  ⟨by rw [row_cell h.row]; rfl, by rw [row_cell h.row]; rfl, by rw [row_cell h.row]; rfl⟩
theorem Box.here {w w' : World} {b : Nat} {x y z : Value} (h : Box w b x y z) (hb : Below w.heap.size w w') : Box w' b x y z := ⟨by rw [hb.block b h.lt]; exact h.row⟩
theorem Box.keep {T B : Nat} {w w' : World} {b : Nat} {x y z : Value} (h : Box w b x y z) (hk : Keep T B w w') (hT : 49 ≠ T) : Box w' b x y z := ⟨hk.typ _ _ _ _ hT h.row⟩
theorem Box.new (w : World) (x y z : Value) : Box (w.alloc (.cells #[x, y, z] 49)) w.heap.size x y z := ⟨heap_alloc_last _ _⟩
theorem NewEnt.off {base base' : Nat} {w w' : World} {y : It} {F : List It} (hy : NewEnt base' w' y) (hF : ∀ e ∈ F, NewEnt base w e) (hb : w.heap.size ≤ base') : ∀ b ∈ blocks [y], b ∉ blocks F := fun b h1 h2 => by
  have h3 := (blocks_lt hF h2).1
  have h4 := (blocks_lt (F := [y]) (fun e he => by simp at he; rw [he]; exact hy) h1).2
  omega

set_option maxHeartbeats 1600000 in
set_option maxRecDepth 100000 in
theorem cut_any {w : World} {v vr : Value} {L : List It} {r : Rg} (hL : ListAt w.heap.size w v L) (hr : RangeAt w vr r) :
    Calls Try.prog 24 #[v, vr] w fun e w' => ∃ v' F, e = .returned (.tuple #[v', .int .i64 ((L.length - F.length : Nat) : Int)]) ∧ F.map It.e = cutE r (L.map It.e) ∧ NewList w.heap.size w' v' F ∧ Below w.heap.size w w' := by
  have hsh := hL.short
  obtain ⟨a, c, rfl⟩ := hL.form
  obtain ⟨v1, v2, rfl, h1, h2⟩ := hr.is
  obtain ⟨a1, c1, rfl⟩ := h1.in.form
  obtain ⟨a2, c2, rfl⟩ := h2.in.form
  have HL : Hid (ListAt w.heap.size w (.slice a L.length c) L) := hL
  obtain ⟨W0, hW0⟩ : ∃ W0, W0 = w.alloc (.cells #[.slice a1 r.lo.length c1, .slice a2 r.hi.length c2, .bool r.all] 49) := ⟨_, rfl⟩
  have HB0 : Hid (Below w.heap.size w W0) := by rw [hW0]; exact below_new _ _
  have HX0 : Hid (Box W0 w.heap.size (.slice a1 r.lo.length c1) (.slice a2 r.hi.length c2) (.bool r.all)) := by rw [hW0]; exact Box.new _ _ _ _
  have HRG : Hid (∀ w', Below w.heap.size w w' → RangeAt w' (.agg #[.slice a1 r.lo.length c1, .slice a2 r.hi.length c2, .bool r.all]) r) := fun w' hb => ⟨_, _, rfl, h1.here hb, h2.here hb⟩
  clear hL hr h1 h2
  go_enter Try.func24, Try.ntmps24
  go_wp2_with fail
  rw [← hW0]
  clear hW0
  go_loopw [6, 11] (fun vl i wx => ∃ (k : Nat) (F : List It), k ≤ L.length ∧ i = .int .i64 k ∧ F.map It.e = cutE r ((L.map It.e).take k) ∧ NewList w.heap.size wx vl F ∧ F.length ≤ k ∧ Box wx w.heap.size (.slice a1 r.lo.length c1) (.slice a2 r.hi.length c2) (.bool r.all) ∧ Below w.heap.size w wx) (fun _ i _ => L.length - (intOf i).toNat)
  case atStart => exact ⟨0, [], by omega, rfl, rfl, NewList.nil _ _, Nat.le_refl _, HX0.out, HB0.out⟩
  case round =>
    obtain ⟨k, F, hk, rfl, hFe, hF, hFk, hbx, hbw⟩ := hrel
    have HFE : Hid (F.map It.e = cutE r ((L.map It.e).take k)) := hFe
    obtain ⟨al, nl, cl, evl⟩ := hF.shape
    subst evl
    have HF : Hid (NewList w.heap.size wr (.slice al nl cl) F) := hF
    have HBX : Hid (Box wr w.heap.size (.slice a1 r.lo.length c1) (.slice a2 r.hi.length c2) (.bool r.all)) := hbx
    have HBW : Hid (Below w.heap.size w wr) := hbw
    have hwsz := hbw.size
    clear hFe hF hbx hbw
    by_cases hlt : k < L.length
    · have hz : (k : Int) < (L.length : Int) := by omega
      obtain ⟨e, he⟩ : ∃ e, L[k]? = some e := ⟨_, List.getElem?_eq_getElem hlt⟩
      have hL := HL.out.here HBW.out
      obtain ⟨g, off, c', e1, k0, k1⟩ := hL.cells k e he
      cases e1
      have HEO : Hid (It.Ok wr.heap.size wr e) := hL.ok e (List.mem_of_getElem? he)
      obtain ⟨b1, d1, f1⟩ := HEO.out.k.form
      obtain ⟨b2, d2, f2⟩ := HEO.out.v.form
      rw [f1] at k0
      rw [f2] at k1
      have HNX : Hid _ := cutE_take (r := r) (ents_get he)
      obtain ⟨W, hW⟩ : ∃ W, W = wr.alloc (.cells #[.slice b1 e.e.k.length d1, .slice b2 e.e.v.length d2] 47) := ⟨_, rfl⟩
      have HBN : Hid (Below wr.heap.size wr W) := by rw [hW]; exact below_new _ _
      have HEX : Hid (EBox W wr.heap.size (.slice b1 e.e.k.length d1) (.slice b2 e.e.v.length d2)) := by rw [hW]; exact EBox.new _ _ _
      have HBW2 : Hid (Below w.heap.size w W) := HBW.out.trans (HBN.out.mono hwsz)
      have HHA := has_any (HRG.out W HBW2.out) (show KeyAt W (.slice b1 e.e.k.length d1) e.e.k by have := (HEO.out.here HBN.out).k.at (Nat.le_refl _); rw [f1] at this; exact this)
      have HEA : Hid (∀ w', Below W.heap.size W w' → EntAt w' (.agg #[.slice b1 e.e.k.length d1, .slice b2 e.e.v.length d2]) e.e) := fun w' hb => by
        have := (HEO.out.here HBN.out).ent.here hb
        rw [f1, f2] at this
        exact this
      clear hL he f1 f2
      go_upto_region 5 with fail
      rw [← hW]
      clear hW k0 k1
      obtain ⟨k0, k1, k2⟩ := (HBX.out.here HBN.out).cells
      obtain ⟨m0, m1⟩ := HEX.out.cells
      cases hhas : r.has e.e.k with
      | true =>
        rw [hhas] at HHA
        have HN : Hid (F.map It.e = cutE r ((L.map It.e).take (k + 1))) := by rw [Hid, HNX.out, hhas]; simp [HFE.out]
        clear hhas HNX
        go_wp2_with (go_at_call 51; refine HHA.mono ?_; rintro e' w2 ⟨rfl, hb2⟩
                     have HB2 : Hid (Below W.heap.size W w2) := hb2
                     clear hb2)
        exact ⟨⟨k + 1, F, by omega, by go_num, HN.out, (HF.out.here HBN.out).here HB2.out, by omega, (HBX.out.here HBN.out).here HB2.out, HBW2.out.trans (HB2.out.mono HBW2.out.size)⟩, by simp [intOf]; omega⟩
      | false =>
        rw [hhas] at HHA
        have HN : Hid (F.map It.e ++ [e.e] = cutE r ((L.map It.e).take (k + 1))) := by rw [Hid, HNX.out, hhas]; simp [HFE.out]
        clear hhas HNX
        go_wp2_with (first
          | (go_at_call 51; refine HHA.mono ?_; rintro e' w2 ⟨rfl, hb2⟩
             have HB2 : Hid (Below W.heap.size W w2) := hb2
             obtain ⟨n0, n1⟩ := (HEX.out.here hb2).cells
             clear hb2)
          | (go_at_call 52; refine (anew_any (HEA.out w2 HB2.out)).mono ?_; rintro e' w3 ⟨y, rfl, hye, hy3, hb3⟩
             have HB3 : Hid (Below w2.heap.size w2 w3) := hb3
             have HY3 : Hid (NewEnt w2.heap.size w3 y) := hy3
             have HYE : Hid (y.e = e.e) := hye
             have HF3 : Hid (NewList w.heap.size w3 (.slice al nl cl) F) := (((HF.out.here HBN.out).here HB2.out).here hb3)
             obtain ⟨p1, q1, r1, e1⟩ := hy3.k.shape
             obtain ⟨p2, q2, r2, e2⟩ := hy3.v.shape
             rw [e1, e2]
             clear hb3 hy3 hye)
          | (at_builtin
             have hbn : Below w3.heap.size w3 (w3.alloc (.cells #[.slice p1 q1 r1, .slice p2 q2 r2] 47)) := below_new _ _
             have hl1 : ListAt (w3.alloc (.cells #[.slice p1 q1 r1, .slice p2 q2 r2] 47)).heap.size (w3.alloc (.cells #[.slice p1 q1 r1, .slice p2 q2 r2] 47)) (.slice (some ⟨w3.heap.size, 0, none⟩) 1 1) [y] := by
               have := list_one w3 y HY3.out.ok
               rw [e1, e2] at this
               exact this
             have hw23 := HB3.out.size
             have hw12 := HB2.out.size
             have hww := HBW2.out.size
             refine wpList_append_rows rfl _ _ rfl w.heap.size (.slice al nl cl) _ F [y] rfl (HF3.out.here hbn).own rfl hl1 (by simp; omega) (by simp; omega) ?_
             intro v4 w4 ho4 hk4
             have HF4 : Hid (NewList w.heap.size w4 v4 (F ++ [y])) := (HF3.out.here hbn).push ((HY3.out.mono (by omega)).here hbn) (HY3.out.off ((HF.out.here HBN.out).here HB2.out).ents (Nat.le_refl _)) ho4 hk4
             have HBX4 : Hid (Box w4 w.heap.size (.slice a1 r.lo.length c1) (.slice a2 r.hi.length c2) (.bool r.all)) := (((((HBX.out.here HBN.out).here HB2.out).here HB3.out).here hbn)).keep hk4 (by decide)
             have HB4 : Hid (Below w.heap.size w w4) := (((HBW2.out.trans (HB2.out.mono hww)).trans (HB3.out.mono (by omega))).trans (hbn.mono (by omega))).trans hk4.low
             clear ho4 hk4))
        exact ⟨⟨k + 1, F ++ [y], by omega, by go_num, by rw [List.map_append, ← HN.out, List.map_singleton, HYE.out], HF4.out, by simp; omega, HBX4.out, HB4.out⟩, by simp [intOf]; omega⟩
    · have hz : ¬ (k : Int) < (L.length : Int) := by omega
      have HE : Hid ((L.map It.e).take k = L.map It.e) := List.take_of_length_le (by simp; omega)
      obtain ⟨aF, cF, eF⟩ := (HF.out.list (by omega)).form
      have HFL : Hid (nl = F.length) := by injection eF with _ e _
      have hnl : (L.length : Int) - (nl : Int) = ((L.length - F.length : Nat) : Int) := by rw [HFL.out]; omega
      clear eF
      go_wp2
      go_ret2
      exact ⟨_, F, rfl, by rw [HFE.out, HE.out], HF.out, HBW.out⟩
end Go.Proofs.Ytgifnaahahfhbaa
