/- Meaning. -/
import Derived.Test.YtkjjgbaoicjbaabPiecesW
namespace Go.Proofs.Ytkjjgbaoicjbaab
open Go.RowKit

def Pt.put (e : Pt) (j : Nat) (u : Value) : Pt := match j with
  | 1 => ⟨u, e.vv, e.vl, e.vh, e.p⟩
  | 2 => ⟨e.vk, u, e.vl, e.vh, e.p⟩
  | 3 => ⟨e.vk, e.vv, u, e.vh, e.p⟩
  | _ => ⟨e.vk, e.vv, e.vl, u, e.p⟩
def Pt.key (e : Pt) (j : Nat) : Key := match j with
  | 1 => e.p.k
  | 2 => e.p.v
  | 3 => e.p.lo
  | _ => e.p.hi
theorem Pt.put_p (e : Pt) (j : Nat) (u : Value) : (e.put j u).p = e.p := by unfold Pt.put; split <;> rfl
theorem flatP_put (L : List Pt) (i j : Nat) (e : Pt) (h : L[i]? = some e) (u : Value) (h1 : 1 ≤ j) (h4 : j ≤ 4) : (flatP L).set (i * 6 + j) u = flatP (L.set i (e.put j u)) := by
  induction L generalizing i with
  | nil => simp at h
  | cons x L ih =>
    have hc : flatP (x :: L) = x.cells ++ flatP L := rfl
    have hl : x.cells.length = 6 := rfl
    cases i with
    | zero =>
      simp at h; subst h
      obtain rfl | rfl | rfl | rfl : j = 1 ∨ j = 2 ∨ j = 3 ∨ j = 4 := by omega
      all_goals rfl
    | succ i =>
      rw [hc, List.set_append_right _ _ (by rw [hl]; omega), hl, show (i + 1) * 6 + j - 6 = i * 6 + j by omega, ih i (by simpa using h)]
      rfl
/-- A slice of a piece is written. -/
theorem Pcs.put {base : Nat} {w : World} {g c n : Nat} {F : List Pt} (h : Pcs base w (.slice (some ⟨g, 0, none⟩) n c) F) {i : Nat} {e : Pt} (hi : F[i]? = some e) (j : Nat) (h1 : 1 ≤ j) (h4 : j ≤ 4) {u : Value} (hu : KeyK base w u (e.key j)) :
    Pcs base (w.setCell ⟨g, i * 6 + j, none⟩ u) (.slice (some ⟨g, 0, none⟩) n c) (F.set i (e.put j u)) ∧ Keep 49 base w (w.setCell ⟨g, i * 6 + j, none⟩ u) := by
  obtain ⟨hl0, hr⟩ := h.own
  rcases hr with ⟨e', _⟩ | ⟨g', cap, cur, e', hg0, hg, hm, hc, hsz, ht⟩
  · cases e'
  · cases e'
    have hil : i < F.length := (List.getElem?_eq_some_iff.1 hi).1
    have hk : Keep 49 base w (w.setCell ⟨g, i * 6 + j, none⟩ u) := keep_set hg hg0 u
    refine ⟨⟨⟨by rw [flatP_length], .inr ⟨g, c, cur.setIfInBounds (i * 6 + j) u, by rw [List.length_set], hg0, heap_set_same _ hg, by rw [List.length_set]; exact hm, hc, by simp [hsz], ?_⟩⟩, fun x hx => ?_⟩, hk⟩
    · rw [List.length_set, ← flatP_put F i j e hi u h1 h4, ← ht, Array.toList_setIfInBounds, List.take_set]
    · rcases List.mem_or_eq_of_mem_set hx with h' | h'
      · exact (h.ok x h').keep hk (by decide)
      · subst h'
        have := (h.ok e (List.mem_of_getElem? hi)).keep hk (by decide)
        have hu' := hu.keep hk (by decide)
        obtain rfl | rfl | rfl | rfl : j = 1 ∨ j = 2 ∨ j = 3 ∨ j = 4 := by omega
        · exact ⟨hu', this.v, this.lo, this.hi⟩
        · exact ⟨this.k, hu', this.lo, this.hi⟩
        · exact ⟨this.k, this.v, hu', this.hi⟩
        · exact ⟨this.k, this.v, this.lo, hu'⟩
theorem pcsOf_put {F : List Pt} {i : Nat} {e : Pt} (h : F[i]? = some e) (j : Nat) (u : Value) : pcsOf (F.set i (e.put j u)) = pcsOf F := by
  rw [pcsOf_set, Pt.put_p]
  apply List.ext_getElem?
  intro k
  rw [List.getElem?_set]
  split
  · next hk => subst hk; simp [pcsOf, h]; exact (List.getElem?_eq_some_iff.1 h).1
  · rfl
theorem set_get {F : List Pt} {i : Nat} {e : Pt} (h : F[i]? = some e) (x : Pt) : (F.set i x)[i]? = some x := by
  rw [List.getElem?_set_self ((List.getElem?_eq_some_iff.1 h).1)]
/-- A block that holds a piece. -/
structure PBox (w : World) (b : Nat) (e : Pt) : Prop where
  row : w.heap[b]? = some (.cells #[.bool e.p.put, e.vk, e.vv, e.vl, e.vh, .bool false] 49 (0, 0))
theorem PBox.lt {w : World} {b : Nat} {e : Pt} (h : PBox w b e) : b < w.heap.size := (Array.getElem?_eq_some_iff.1 h.row).1
theorem PBox.here {w w' : World} {b : Nat} {e : Pt} (h : PBox w b e) (hb : Below w.heap.size w w') : PBox w' b e := ⟨by rw [hb.block b h.lt]; exact h.row⟩
theorem PBox.cells {w : World} {b : Nat} {e : Pt} (h : PBox w b e) : w.cell? ⟨b, 1, none⟩ = some e.vk ∧ w.cell? ⟨b, 2, none⟩ = some e.vv ∧ w.cell? ⟨b, 3, none⟩ = some e.vl ∧ w.cell? ⟨b, 4, none⟩ = some e.vh :=
  ⟨by rw [row_cell h.row]; rfl, by rw [row_cell h.row]; rfl, by rw [row_cell h.row]; rfl, by rw [row_cell h.row]; rfl⟩
/-- What Meaning gives. -/
structure MeanPost (w : World) (M : List Ms) (r : Ending) (w' : World) : Prop where
  is : ∃ (v : Value) (F : List Pt) (C : List Key), r = .returned v ∧ IsCuts M C ∧ pcsOf F = piecesM M C ∧ F.length ≤ 2 * M.length ∧ Pcs w.heap.size w' v F ∧ Below w.heap.size w w'

set_option maxHeartbeats 3200000 in
set_option maxRecDepth 100000 in
theorem meaning_any {w : World} {v : Value} {L : List Mt} (hL : MsgsAt w.heap.size w v L) (hlo : ∀ e ∈ L, e.m.lo.length ≤ 4294967296) (hsm : (2 * L.length + 1) * 112 ≤ 140737488355328) :
    Calls Try.prog 16 #[v] w fun r w' => MeanPost w (msOf L) r w' := by
  obtain ⟨a, c, rfl⟩ := hL.form
  have HPI := pieces_any hL hlo hsm
  clear hL hlo
  go_enter Try.func16, Try.ntmps16
  go_wp2_with fail
  refine HPI.mono ?_
  rintro r w1 ⟨v1, F1, C, rfl, hcu, hpc, hfl, hcl, hp, hb⟩
  have HCU : Hid (IsCuts (msOf L) C) := hcu
  have HPC : Hid (pcsOf F1 = piecesM (msOf L) C) := hpc
  rw [msOf_length] at hcl
  have hf1 : F1.length ≤ 2 * L.length := by omega
  obtain ⟨ua, uc, hu⟩ := own_form' hp.own
  subst hu
  have HP1 : Hid (Pcs w.heap.size w1 (.slice ua F1.length uc) F1) := hp
  have HB1 : Hid (Below w.heap.size w w1) := hb
  clear hcu hpc hfl hcl hp hb HPI
  go_wp2_with fail
  go_loopw [10] (fun i wx => ∃ (n : Nat) (F : List Pt), n ≤ F1.length ∧ i = .int .i64 n ∧ pcsOf F = pcsOf F1 ∧ Pcs w.heap.size wx (.slice ua F1.length uc) F ∧ Below w.heap.size w wx) (fun i _ => F1.length - (intOf i).toNat)
  case atStart => exact ⟨0, F1, by omega, rfl, rfl, HP1.out, HB1.out⟩
  case round =>
    obtain ⟨n, F, hn, rfl, hpe, hpp, hlow⟩ := hrel
    have hFl : F.length = F1.length := by have := congrArg List.length hpe; simpa [pcsOf] using this
    have HPE : Hid (pcsOf F = pcsOf F1) := hpe
    have HPP : Hid (Pcs w.heap.size wr (.slice ua F1.length uc) F) := hpp
    have HBE : Hid (Below w.heap.size w wr) := hlow
    clear hpe hlow HP1 HB1
    by_cases hlt : n < F1.length
    · have hz : (n : Int) < (F1.length : Int) := by omega
      obtain ⟨e, he⟩ : ∃ e, F[n]? = some e := ⟨_, List.getElem?_eq_getElem (by omega)⟩
      have HE : Hid (F[n]? = some e) := he
      obtain ⟨g, cg, e1, hg0, hgc, ⟨cur, hcur⟩, hce⟩ := hpp.cells he
      rw [hFl] at e1
      cases e1
      have hgl : g < wr.heap.size := (Array.getElem?_eq_some_iff.1 hcur).1
      have hok := hpp.ok e (List.mem_of_getElem? he)
      have hbw := HBE.out.size
      obtain ⟨ak, ck, f1⟩ := hok.k.form
      obtain ⟨av, cv, f2⟩ := hok.v.form
      obtain ⟨al, cl, f3⟩ := hok.lo.form
      obtain ⟨ah, ch, f4⟩ := hok.hi.form
      have HOK : Hid (e.Ok w.heap.size wr) := hok
      have m0 : wr.cell? ⟨g, n * 6, none⟩ = some (.bool e.p.put) := hce 0 _ rfl
      have m1 : wr.cell? ⟨g, n * 6 + 1, none⟩ = some (.slice ak e.p.k.length ck) := by rw [← f1]; exact hce 1 _ rfl
      have m2 : wr.cell? ⟨g, n * 6 + 2, none⟩ = some (.slice av e.p.v.length cv) := by rw [← f2]; exact hce 2 _ rfl
      have m3 : wr.cell? ⟨g, n * 6 + 3, none⟩ = some (.slice al e.p.lo.length cl) := by rw [← f3]; exact hce 3 _ rfl
      have m4 : wr.cell? ⟨g, n * 6 + 4, none⟩ = some (.slice ah e.p.hi.length ch) := by rw [← f4]; exact hce 4 _ rfl
      have m5 : wr.cell? ⟨g, n * 6 + 5, none⟩ = some (.bool false) := hce 5 _ rfl
      obtain ⟨W, hW⟩ : ∃ W, W = wr.alloc (.cells #[.bool e.p.put, .slice ak e.p.k.length ck, .slice av e.p.v.length cv, .slice al e.p.lo.length cl, .slice ah e.p.hi.length ch, .bool false] 49) := ⟨_, rfl⟩
      have HBW : Hid (Below wr.heap.size wr W) := by rw [hW]; exact below_new _ _
      have HX : Hid (PBox W wr.heap.size e) := by rw [hW]; have := heap_alloc_last wr (.cells #[.bool e.p.put, e.vk, e.vv, e.vl, e.vh, .bool false] 49); rw [f1, f2, f3, f4] at this; exact ⟨by rw [f1, f2, f3, f4]; exact this⟩
      obtain ⟨x1, x2, x3, x4⟩ := HX.out.cells
      rw [f1] at x1
      rw [f2] at x2
      rw [f3] at x3
      rw [f4] at x4
      have HKK : Hid (∀ W', Below W.heap.size W W' → KeyAt W' (.slice ak e.p.k.length ck) e.p.k ∧ KeyAt W' (.slice av e.p.v.length cv) e.p.v ∧ KeyAt W' (.slice al e.p.lo.length cl) e.p.lo ∧ KeyAt W' (.slice ah e.p.hi.length ch) e.p.hi) := fun W' hb => by
        have hb' := HBW.out.trans (hb.mono HBW.out.size)
        have h := HOK.out.here hbw hb'
        have hs := Nat.le_trans hbw hb'.size
        rw [← f1, ← f2, ← f3, ← f4]
        exact ⟨h.k.at hs, h.v.at hs, h.lo.at hs, h.hi.at hs⟩
      have HCE : Hid (∀ W', Below wr.heap.size wr W' → (W'.cell? ⟨g, n * 6 + 1, none⟩ = some (.slice ak e.p.k.length ck) ∧ W'.cell? ⟨g, n * 6 + 2, none⟩ = some (.slice av e.p.v.length cv) ∧ W'.cell? ⟨g, n * 6 + 3, none⟩ = some (.slice al e.p.lo.length cl) ∧ W'.cell? ⟨g, n * 6 + 3 + 1, none⟩ = some (.slice ah e.p.hi.length ch)) ∧ ∀ o, W'.frozen? ⟨g, o, none⟩ = false) := fun W' hb => by
        refine ⟨⟨?_, ?_, ?_, ?_⟩, fun o => ?_⟩
        · rw [hb.cell (p := ⟨g, n * 6 + 1, none⟩) hgl]; exact m1
        · rw [hb.cell (p := ⟨g, n * 6 + 2, none⟩) hgl]; exact m2
        · rw [hb.cell (p := ⟨g, n * 6 + 3, none⟩) hgl]; exact m3
        · rw [hb.cell (p := ⟨g, n * 6 + 3 + 1, none⟩) hgl]; exact m4
        · exact row_frozen (by rw [hb.block g hgl]; exact hcur) o
      have hne : g ≠ wr.heap.size := by omega
      have hne' : wr.heap.size ≠ g := by omega
      have HD : Hid (Below W.heap.size W W.drew) := (Below.refl _ _).drew
      clear hce he hpp hok hgc
      go_wp2_with fail
      rw [← hW]
      clear hW m0 m1 m2 m3 m4 m5 x3 x4
      go_region_held_law (fun W' => W'.cell? ⟨wr.heap.size, 1, none⟩ = some (.slice ak e.p.k.length ck) ∧ W'.cell? ⟨wr.heap.size, 2, none⟩ = some (.slice av e.p.v.length cv)) (first | go_keep | (refine ⟨?_, ?_⟩ <;> assumption))
        (first
          | (go_at_call_of 30 (Value.slice ak e.p.k.length ck)
             refine (anewG_any (HKK.out _ HD.out).1).mono ?_
             rintro r w1 ⟨u1, rfl, hu1, hb1⟩
             have HB1 : Hid (Below W.heap.size W w1) := Below.trans HD.out (hb1.mono (Below.size HD.out))
             obtain ⟨r1, q1, y1⟩ := hu1.at.in.form
             subst y1
             have HU1 : Hid (NewKey w.heap.size w1 (.slice r1 e.p.k.length q1) e.p.k) := hu1.mono (Nat.le_trans hbw (Nat.le_trans HBW.out.size (Below.size HD.out)))
             obtain ⟨p1, p2, _, _⟩ := (HX.out.here HB1.out).cells
             rw [f1] at p1
             rw [f2] at p2
             clear hu1 hb1)
          | (go_at_call_of 30 (Value.slice av e.p.v.length cv)
             refine (anewG_any (HKK.out _ HB1.out).2.1).mono ?_
             rintro r w2 ⟨u2, rfl, hu2, hb2⟩
             have HB2 : Hid (Below W.heap.size W w2) := Below.trans HB1.out (hb2.mono (Below.size HB1.out))
             obtain ⟨r2, q2, y2⟩ := hu2.at.in.form
             subst y2
             have HU2 : Hid (NewKey w.heap.size w2 (.slice r2 e.p.v.length q2) e.p.v) := hu2.mono (Nat.le_trans hbw (Nat.le_trans HBW.out.size (Below.size HB1.out)))
             have HU1' : Hid (NewKey w.heap.size w2 (.slice r1 e.p.k.length q1) e.p.k) := HU1.out.here hb2
             obtain ⟨p1, p2, _, _⟩ := (HX.out.here HB2.out).cells
             rw [f1] at p1
             rw [f2] at p2
             obtain ⟨⟨z1, z2, _, _⟩, o1⟩ := HCE.out w2 (HBW.out.trans (HB2.out.mono HBW.out.size))
             have o11 := o1 (n * 6 + 1)
             have o12 := o1 (n * 6 + 2)
             clear hu2 hb2 o1))
      obtain ⟨W5, hW5⟩ : ∃ W5, W5 = (w2.setCell ⟨g, n * 6 + 1, none⟩ (.slice r1 e.p.k.length q1)).setCell ⟨g, n * 6 + 2, none⟩ (.slice r2 e.p.v.length q2) := ⟨_, rfl⟩
      rw [← hW5]
      have HBr2 : Hid (Below wr.heap.size wr w2) := HBW.out.trans (HB2.out.mono HBW.out.size)
      have HP2 : Hid (Pcs w.heap.size w2 (.slice (some ⟨g, 0, none⟩) F1.length uc) F) := HPP.out.here hbw HBr2.out
      obtain ⟨hs1, hk1⟩ := HP2.out.put HE.out 1 (by decide) (by decide) (u := .slice r1 e.p.k.length q1) ⟨.inr HU1'.out⟩
      obtain ⟨hs2, hk2⟩ := hs1.put (set_get HE.out _) 2 (by decide) (by decide) (u := .slice r2 e.p.v.length q2) ⟨.inr (HU2.out.keep hk1 (by decide))⟩
      obtain ⟨E5, hE5⟩ : ∃ E5, E5 = (e.put 1 (.slice r1 e.p.k.length q1)).put 2 (.slice r2 e.p.v.length q2) := ⟨_, rfl⟩
      obtain ⟨F5, hF5⟩ : ∃ F5, F5 = (F.set n (e.put 1 (.slice r1 e.p.k.length q1))).set n ((e.put 1 (.slice r1 e.p.k.length q1)).put 2 (.slice r2 e.p.v.length q2)) := ⟨_, rfl⟩
      have HPE5 : Hid (pcsOf F5 = pcsOf F1) := by rw [Hid, hF5, pcsOf_put (set_get HE.out _), pcsOf_put HE.out, HPE.out]
      have HE5 : Hid (F5[n]? = some E5) := by rw [Hid, hF5, hE5]; exact set_get (set_get HE.out _) _
      have HEP : Hid (E5.p = e.p ∧ E5.vl = e.vl ∧ E5.vh = e.vh) := by rw [Hid, hE5]; exact ⟨rfl, rfl, rfl⟩
      have HP5 : Hid (Pcs w.heap.size W5 (.slice (some ⟨g, 0, none⟩) F1.length uc) F5) := by rw [Hid, hW5, hF5]; exact hs2
      have HK5 : Hid (Keep 49 w.heap.size w2 W5) := by rw [Hid, hW5]; exact hk1.trans hk2
      have HX5 : Hid (PBox W5 wr.heap.size e) := by rw [Hid, hW5]; exact ⟨by rw [heap_set_other _ hne', heap_set_other _ hne']; exact (HX.out.here HB2.out).row⟩
      have HB5 : Hid (Below w.heap.size w W5) := (HBE.out.trans (HBr2.out.mono hbw)).trans HK5.out.low
      have hb5s : w.heap.size ≤ W5.heap.size := HB5.out.size
      have HKK5 : Hid (∀ W', Below W5.heap.size W5 W' → KeyAt W' (.slice al e.p.lo.length cl) e.p.lo ∧ KeyAt W' (.slice ah e.p.hi.length ch) e.p.hi) := fun W' hb => by
        have h := ((HOK.out.here hbw HBr2.out).keep HK5.out (by decide)).here hb5s hb
        have hs := Nat.le_trans hb5s hb.size
        rw [← f3, ← f4]
        exact ⟨h.lo.at hs, h.hi.at hs⟩
      have HCE5 : Hid (∀ W', Below W5.heap.size W5 W' → (W'.cell? ⟨g, n * 6 + 3, none⟩ = some (.slice al e.p.lo.length cl) ∧ W'.cell? ⟨g, n * 6 + 3 + 1, none⟩ = some (.slice ah e.p.hi.length ch)) ∧ ∀ o, W'.frozen? ⟨g, o, none⟩ = false) := fun W' hb => by
        obtain ⟨_, _, e1, _, _, ⟨cur', hcur'⟩, hce⟩ := (HP5.out.here hb5s hb).cells HE5.out
        rw [show F5.length = F1.length by have := congrArg List.length HPE5.out; simpa [pcsOf] using this] at e1
        cases e1
        refine ⟨⟨?_, ?_⟩, fun o => row_frozen hcur' o⟩
        · rw [← f3, ← HEP.out.2.1]; exact hce 3 _ rfl
        · rw [← f4, ← HEP.out.2.2]; exact hce 4 _ rfl
      have hgl5 : g ≠ wr.heap.size := hne
      obtain ⟨_, _, x3, x4⟩ := HX5.out.cells
      rw [f3] at x3
      rw [f4] at x4
      have HD5 : Hid (Below W5.heap.size W5 W5.drew) := (Below.refl _ _).drew
      clear hW5 hE5 hF5 hs1 hs2 hk1 hk2 p1 p2 z1 z2 o11 o12 x1 x2 HB1 HU1 HU1' HU2 HCE HKK HD HP2
      go_wp2_with fail
      go_region_held_law (fun W' => W'.cell? ⟨wr.heap.size, 3, none⟩ = some (.slice al e.p.lo.length cl) ∧ W'.cell? ⟨wr.heap.size, 4, none⟩ = some (.slice ah e.p.hi.length ch)) (first | go_keep | (refine ⟨?_, ?_⟩ <;> assumption))
        (first
          | (go_at_call_of 30 (Value.slice al e.p.lo.length cl)
             refine (anewG_any (HKK5.out _ HD5.out).1).mono ?_
             rintro r w3 ⟨u1, rfl, hu1, hb1⟩
             have HB3 : Hid (Below W5.heap.size W5 w3) := Below.trans HD5.out (hb1.mono (Below.size HD5.out))
             obtain ⟨r3, q3, y1⟩ := hu1.at.in.form
             subst y1
             have HU3 : Hid (NewKey w.heap.size w3 (.slice r3 e.p.lo.length q3) e.p.lo) := hu1.mono (Nat.le_trans hb5s (Below.size HD5.out))
             obtain ⟨_, _, p1, p2⟩ := (HX5.out.here HB3.out).cells
             rw [f3] at p1
             rw [f4] at p2
             clear hu1 hb1)
          | (go_at_call_of 30 (Value.slice ah e.p.hi.length ch)
             refine (anewG_any (HKK5.out _ HB3.out).2).mono ?_
             rintro r w4 ⟨u2, rfl, hu2, hb2⟩
             have HB4 : Hid (Below W5.heap.size W5 w4) := Below.trans HB3.out (hb2.mono (Below.size HB3.out))
             obtain ⟨r4, q4, y2⟩ := hu2.at.in.form
             subst y2
             have HU4 : Hid (NewKey w.heap.size w4 (.slice r4 e.p.hi.length q4) e.p.hi) := hu2.mono (Nat.le_trans hb5s (Below.size HB3.out))
             have HU3' : Hid (NewKey w.heap.size w4 (.slice r3 e.p.lo.length q3) e.p.lo) := HU3.out.here hb2
             obtain ⟨_, _, p1, p2⟩ := (HX5.out.here HB4.out).cells
             rw [f3] at p1
             rw [f4] at p2
             obtain ⟨⟨z1, z2⟩, o1⟩ := HCE5.out w4 HB4.out
             have o11 := o1 (n * 6 + 3)
             have o12 := o1 (n * 6 + 3 + 1)
             clear hu2 hb2 o1))
      obtain ⟨W8, hW8⟩ : ∃ W8, W8 = (w4.setCell ⟨g, n * 6 + 3, none⟩ (.slice r3 e.p.lo.length q3)).setCell ⟨g, n * 6 + 3 + 1, none⟩ (.slice r4 e.p.hi.length q4) := ⟨_, rfl⟩
      rw [← hW8]
      obtain ⟨hs1, hk1⟩ := (HP5.out.here hb5s HB4.out).put HE5.out 3 (by decide) (by decide) (u := .slice r3 e.p.lo.length q3) ⟨.inr (by rw [show E5.key 3 = e.p.lo from congrArg Pc.lo HEP.out.1]; exact HU3'.out)⟩
      obtain ⟨hs2, hk2⟩ := hs1.put (set_get HE5.out _) 4 (by decide) (by decide) (u := .slice r4 e.p.hi.length q4) ⟨.inr (by rw [show (E5.put 3 (.slice r3 e.p.lo.length q3)).key 4 = e.p.hi from congrArg Pc.hi HEP.out.1]; exact HU4.out.keep hk1 (by decide))⟩
      have HR : Hid (∃ F', pcsOf F' = pcsOf F1 ∧ Pcs w.heap.size W8 (.slice (some ⟨g, 0, none⟩) F1.length uc) F' ∧ Below w.heap.size w W8) := by
        refine ⟨_, ?_, by rw [hW8]; exact hs2, ?_⟩
        · rw [pcsOf_put (set_get HE5.out _), pcsOf_put HE5.out, HPE5.out]
        · rw [hW8]; exact (HB5.out.trans (HB4.out.mono hb5s)).trans (hk1.trans hk2).low
      clear hW8 hs1 hs2 hk1 hk2 p1 p2 z1 z2 o11 o12 x3 x4
      obtain ⟨F', h1, h2, h3⟩ := HR.out
      have H1 : Hid _ := h1
      have H2 : Hid _ := h2
      have H3 : Hid _ := h3
      clear h1 h2 h3 HR
      go_wp2
      exact ⟨⟨n + 1, F', by omega, by go_num, H1.out, H2.out, H3.out⟩, by simp [intOf]; omega⟩
    · have hz : ¬ (n : Int) < (F1.length : Int) := by omega
      have HP : Hid (MeanPost w (msOf L) (.returned (.slice ua F1.length uc)) wr) := ⟨_, F, C, rfl, HCU.out, by rw [HPE.out]; exact HPC.out, by rw [msOf_length, hFl]; exact hf1, HPP.out, HBE.out⟩
      clear hpp
      go_wp2
      go_ret
      exact HP.out
end Go.Proofs.Ytkjjgbaoicjbaab
