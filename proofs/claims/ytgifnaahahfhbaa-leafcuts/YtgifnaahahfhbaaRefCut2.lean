/- The document's Cut. -/
import Derived.Test.YtgifnaahahfhbaaRefCut
namespace Go.Proofs.Ytgifnaahahfhbaa
open Go.RowKit

set_option maxHeartbeats 1600000 in
set_option maxRecDepth 100000 in
theorem refCut_any {w : World} {v vr : Value} {L : List It} {r : Rg} (hL : ListAt w.heap.size w v L) (hr : RangeAt w vr r) :
    Calls Try.prog 25 #[v, vr] w fun e w' => ∃ v' F, e = .returned (.tuple #[v', .int .i64 ((L.length - F.length : Nat) : Int)]) ∧ F.map It.e = cutE r (L.map It.e) ∧ OutList w.heap.size w' v' F ∧ Below w.heap.size w w' := by
  have hsh := hL.short
  obtain ⟨a, c, rfl⟩ := hL.form
  obtain ⟨v1, v2, rfl, h1, h2⟩ := hr.is
  obtain ⟨a1, c1, rfl⟩ := h1.in.form
  obtain ⟨a2, c2, rfl⟩ := h2.in.form
  have HL : Hid (ListAt w.heap.size w (.slice a L.length c) L) := hL
  obtain ⟨W0, hW0⟩ : ∃ W0, W0 = w.alloc (.cells #[.slice a1 r.lo.length c1, .slice a2 r.hi.length c2, .bool r.all] 49) := ⟨_, rfl⟩
  have HB0 : Hid (Below w.heap.size w W0) := by rw [hW0]; exact below_new _ _
  have HX0 : Hid (Box W0 w.heap.size (.slice a1 r.lo.length c1) (.slice a2 r.hi.length c2) (.bool r.all)) := by rw [hW0]; exact Box.new _ _ _ _
  have HRG : Hid (∀ w', Below w.heap.size w w' → RangeAt w' (.agg #[.slice a1 r.lo.length c1, .slice a2 r.hi.length c2, .bool r.all]) r) := fun w' hb => ⟨_, _, rfl, h1.here hb, h2.here hb⟩
  clear hL hr h1 h2
  go_enter Try.func25, Try.ntmps25
  go_wp2_with fail
  rw [← hW0]
  clear hW0
  go_loopw [6, 7] (fun vl i wx => ∃ (k : Nat) (F : List It), k ≤ L.length ∧ i = .int .i64 k ∧ F.map It.e = cutE r ((L.map It.e).take k) ∧ OutList w.heap.size wx vl F ∧ F.length ≤ k ∧ Box wx w.heap.size (.slice a1 r.lo.length c1) (.slice a2 r.hi.length c2) (.bool r.all) ∧ Below w.heap.size w wx) (fun _ i _ => L.length - (intOf i).toNat)
  case atStart => exact ⟨0, [], by omega, rfl, rfl, OutList.nil _ _, Nat.le_refl _, HX0.out, HB0.out⟩
  case round =>
    obtain ⟨k, F, hk, rfl, hFe, hF, hFk, hbx, hbw⟩ := hrel
    have HFE : Hid (F.map It.e = cutE r ((L.map It.e).take k)) := hFe
    obtain ⟨al, nl, cl, evl⟩ := hF.shape
    subst evl
    have HF : Hid (OutList w.heap.size wr (.slice al nl cl) F) := hF
    have HBX : Hid (Box wr w.heap.size (.slice a1 r.lo.length c1) (.slice a2 r.hi.length c2) (.bool r.all)) := hbx
    have HBW : Hid (Below w.heap.size w wr) := hbw
    have hwsz := hbw.size
    clear hFe hF hbx hbw
    by_cases hlt : k < L.length
    · have hz : (k : Int) < (L.length : Int) := by omega
      obtain ⟨e, he⟩ : ∃ e, L[k]? = some e := ⟨_, List.getElem?_eq_getElem hlt⟩
      have hL := HL.out.here HBW.out
      obtain ⟨g, off, c', e1, m0, m1⟩ := hL.cells k e he
      cases e1
      have HE : Hid (L[k]? = some e) := he
      have HEO : Hid (It.Ok wr.heap.size wr e) := hL.ok e (List.mem_of_getElem? he)
      obtain ⟨b1, d1, f1⟩ := HEO.out.k.form
      obtain ⟨b2, d2, f2⟩ := HEO.out.v.form
      rw [f1] at m0
      rw [f2] at m1
      have HNX : Hid _ := cutE_take (r := r) (ents_get he)
      have HHA := refHas_any (w := wr.drew) (HRG.out _ HBW.out.drew) (show KeyAt wr.drew (.slice b1 e.e.k.length d1) e.e.k by have := HEO.out.k.at (Nat.le_refl _); rw [f1] at this; exact this.draws 1)
      have HEA : Hid (∀ w', Below wr.heap.size wr w' → EntAt w' (.agg #[.slice b1 e.e.k.length d1, .slice b2 e.e.v.length d2]) e.e) := fun w' hb => by
        have := HEO.out.ent.here hb
        rw [f1, f2] at this
        exact this
      have HC : Hid (∀ w', Below wr.heap.size wr w' → w'.cell? ⟨g, off + k * 2, none⟩ = some (.slice b1 e.e.k.length d1) ∧ w'.cell? ⟨g, off + k * 2 + 1, none⟩ = some (.slice b2 e.e.v.length d2)) := fun w' hb => by
        obtain ⟨g', off', c', e1, n0, n1⟩ := (HL.out.here (HBW.out.trans (hb.mono hwsz))).cells k e HE.out
        cases e1
        rw [f1] at n0
        rw [f2] at n1
        exact ⟨n0, n1⟩
      clear hL he f1 f2
      obtain ⟨k0, k1, k2⟩ := HBX.out.cells
      cases hhas : r.has e.e.k with
      | true =>
        rw [hhas] at HHA
        have HN : Hid (F.map It.e = cutE r ((L.map It.e).take (k + 1))) := by rw [Hid, HNX.out, hhas]; simp [HFE.out]
        clear hhas HNX
        go_wp2_with fail
        go_region_held_law (fun W' => W'.cell? ⟨w.heap.size, 0, none⟩ = some (.slice a1 r.lo.length c1) ∧ W'.cell? ⟨w.heap.size, 1, none⟩ = some (.slice a2 r.hi.length c2) ∧ W'.cell? ⟨w.heap.size, 2, none⟩ = some (.bool r.all) ∧ W'.cell? ⟨g, off + k * 2, none⟩ = some (.slice b1 e.e.k.length d1)) (first | go_keep | (refine ⟨?_, ?_, ?_, ?_⟩ <;> assumption))
          (first
            | (go_at_call 53; refine HHA.mono ?_; rintro e' w2 ⟨rfl, hb2⟩
               have HB2 : Hid (Below wr.heap.size wr w2) := ((Below.refl _ wr).drew).trans hb2
               obtain ⟨k0', k1', k2'⟩ := (HBX.out.here HB2.out).cells
               obtain ⟨n0, n1⟩ := HC.out w2 HB2.out
               clear hb2))
        go_wp2
        exact ⟨⟨k + 1, F, by omega, by go_num, HN.out, HF.out.here HB2.out, by omega, HBX.out.here HB2.out, HBW.out.trans (HB2.out.mono hwsz)⟩, by simp [intOf]; omega⟩
      | false =>
        rw [hhas] at HHA
        have HN : Hid (F.map It.e ++ [e.e] = cutE r ((L.map It.e).take (k + 1))) := by rw [Hid, HNX.out, hhas]; simp [HFE.out]
        clear hhas HNX
        go_wp2_with fail
        go_region_held_law (fun W' => W'.cell? ⟨w.heap.size, 0, none⟩ = some (.slice a1 r.lo.length c1) ∧ W'.cell? ⟨w.heap.size, 1, none⟩ = some (.slice a2 r.hi.length c2) ∧ W'.cell? ⟨w.heap.size, 2, none⟩ = some (.bool r.all) ∧ W'.cell? ⟨g, off + k * 2, none⟩ = some (.slice b1 e.e.k.length d1)) (first | go_keep | (refine ⟨?_, ?_, ?_, ?_⟩ <;> assumption))
          (first
            | (go_at_call 53; refine HHA.mono ?_; rintro e' w2 ⟨rfl, hb2⟩
               have HB2 : Hid (Below wr.heap.size wr w2) := ((Below.refl _ wr).drew).trans hb2
               obtain ⟨k0', k1', k2'⟩ := (HBX.out.here HB2.out).cells
               obtain ⟨n0, n1⟩ := HC.out w2 HB2.out
               clear hb2))
        go_wp2_with (first
          | (go_at_call 54; refine (refCopy_any (HEA.out w2 HB2.out)).mono ?_; rintro e' w3 ⟨y, rfl, hye, hy3, hb3⟩
             have HB3 : Hid (Below w2.heap.size w2 w3) := hb3
             have HY3 : Hid (NewPair w3 y) := hy3
             have HYE : Hid (y.e = e.e) := hye
             have HF3 : Hid (OutList w.heap.size w3 (.slice al nl cl) F) := (HF.out.here HB2.out).here hb3
             obtain ⟨p1, q1, r1, e1⟩ := hy3.k.shape
             obtain ⟨p2, q2, r2, e2⟩ := hy3.v.shape
             rw [e1, e2]
             clear hb3 hy3 hye)
          | (at_builtin
             have hbn : Below w3.heap.size w3 (w3.alloc (.cells #[.slice p1 q1 r1, .slice p2 q2 r2] 47)) := below_new _ _
             have hl1 : ListAt (w3.alloc (.cells #[.slice p1 q1 r1, .slice p2 q2 r2] 47)).heap.size (w3.alloc (.cells #[.slice p1 q1 r1, .slice p2 q2 r2] 47)) (.slice (some ⟨w3.heap.size, 0, none⟩) 1 1) [y] := by
               have := list_one w3 y HY3.out.ok
               rw [e1, e2] at this
               exact this
             have hw23 := HB3.out.size
             have hw12 := HB2.out.size
             refine wpList_append_rows rfl _ _ rfl w.heap.size (.slice al nl cl) _ F [y] rfl (HF3.out.here hbn).own rfl hl1 (by simp; omega) (by simp; omega) ?_
             intro v4 w4 ho4 hk4
             have HF4 : Hid (OutList w.heap.size w4 v4 (F ++ [y])) := (HF3.out.here hbn).push (HY3.out.here hbn) ho4 hk4
             have HBX4 : Hid (Box w4 w.heap.size (.slice a1 r.lo.length c1) (.slice a2 r.hi.length c2) (.bool r.all)) := ((((HBX.out.here HB2.out).here HB3.out).here hbn)).keep hk4 (by decide)
             have HB4 : Hid (Below w.heap.size w w4) := (((HBW.out.trans (HB2.out.mono hwsz)).trans (HB3.out.mono (by omega))).trans (hbn.mono (by omega))).trans hk4.low
             clear ho4 hk4))
        exact ⟨⟨k + 1, F ++ [y], by omega, by go_num, by rw [List.map_append, ← HN.out, List.map_singleton, HYE.out], HF4.out, by simp; omega, HBX4.out, HB4.out⟩, by simp [intOf]; omega⟩
    · have hz : ¬ (k : Int) < (L.length : Int) := by omega
      have HE : Hid ((L.map It.e).take k = L.map It.e) := List.take_of_length_le (by simp; omega)
      obtain ⟨aF, cF, eF⟩ := (HF.out.list (by omega)).form
      have HFL : Hid (nl = F.length) := by injection eF with _ e _
      have hnl : (L.length : Int) - (nl : Int) = ((L.length - F.length : Nat) : Int) := by rw [HFL.out]; omega
      clear eF
      go_wp2
      go_ret2
      exact ⟨_, F, rfl, by rw [HFE.out, HE.out], HF.out, HBW.out⟩
end Go.Proofs.Ytgifnaahahfhbaa
