/- The law's Book: outer, whole. -/
import Derived.Test.YtgifnaahahfhbaaBkOutM
import Derived.Test.YtgifnaahahfhbaaBkKeep
import Derived.BigQuiet
import Derived.Deep.RegionHeldLaw
namespace Go.Proofs.Ytgifnaahahfhbaa
open Go.RowKit

theorem infoEs' : (Try.prog.info? 25).map (fun i => (i.zero, i.size, i.bytes)) = some (some (.slice none 0 0), 1, 24) := by kernel_rfl
theorem infoEs2 : ∃ i, Try.prog.info? 25 = some i ∧ i.zero = some (.slice none 0 0) ∧ i.size = 1 ∧ i.bytes = 24 := by
  have h := infoEs'
  cases hi : Try.prog.info? 25 with
  | none => rw [hi] at h; simp at h
  | some i => rw [hi] at h; simp at h; exact ⟨i, rfl, h⟩
theorem rowT_at {w : World} {base e n : Nat} {v : Value} {xs : List Value} (h : w.ownsRow base e 1 v n xs) (j : Nat) (u : Value) (hj : xs[j]? = some u) : ∃ g c, v = .slice (some ⟨g, 0, none⟩) n c ∧ w.cell? ⟨g, j, none⟩ = some u ∧ ∃ cur, w.heap[g]? = some (.cells cur e (0, 0)) := by
  have hjl := (List.getElem?_eq_some_iff.1 hj).1
  have hl : xs.length = n := by have := h.1; simpa using this
  rcases h.2 with ⟨_, e⟩ | ⟨g, cap, cur, rfl, _, hg, hc, _, hs, ht⟩
  · omega
  · refine ⟨g, cap, rfl, ?_, cur, hg⟩
    rw [row_cell hg]
    have := congrArg (fun l => l[j]?) ht
    simp only [List.getElem?_take, hj] at this
    rw [if_pos (by omega), Array.getElem?_toList] at this
    exact this
theorem own_shape1 {w : World} {base e n s : Nat} {v : Value} {xs : List Value} (h : w.ownsRow base e s v n xs) : ∃ a c, v = .slice a n c := by
  rcases h.2 with ⟨e, h0⟩ | ⟨g, cap, cur, e, _⟩
  · exact ⟨none, 0, by rw [e, h0]⟩
  · exact ⟨_, _, e⟩
/-- A Book's list of lists of entries, as it lies. -/
structure EAt (base : Nat) (w : World) (b : Nat) (ve : Value) (E : List (Value × Nat)) : Prop where
  book : ∃ x y, w.heap[b]? = some (.cells #[x, y, ve] 31 (0, 0))
  row : w.ownsRow base 25 1 ve E.length (E.map (·.1))
def AloneE (E : List (Value × Nat)) : Prop := ∀ (i j : Nat) v n v' n' k, E[i]? = some (v, n) → E[j]? = some (v', n') → v.ownBlock = some k → v'.ownBlock = some k → i = j
/-- The lists, those below i marked. -/
def RowsE (base : Nat) (w : World) (E : List (Value × Nat)) (i : Nat) : Prop := ∀ (j : Nat) v n, E[j]? = some (v, n) → RowM base w (markOf j) v n (if j < i then n else 0)
theorem EAt.here {base : Nat} {w w' : World} {b : Nat} {ve : Value} {E : List (Value × Nat)} (h : EAt base w b ve E) (hb : Below w.heap.size w w') : EAt base w' b ve E := by
  obtain ⟨⟨x, y, hx⟩, hr⟩ := h
  exact ⟨⟨x, y, by rw [hb.block b (Array.getElem?_eq_some_iff.1 hx).1]; exact hx⟩, own_same hr fun k _ hl => hb.block k hl⟩
theorem EAt.cell {base : Nat} {w : World} {b : Nat} {ve : Value} {E : List (Value × Nat)} (h : EAt base w b ve E) : w.cell? ⟨b, 2, none⟩ = some ve := by
  obtain ⟨⟨x, y, hx⟩, _⟩ := h
  rw [row_cell hx]; rfl
/-- Entries become marked, the lists' list stays. -/
theorem EAt.marked {base : Nat} {w w' : World} {b : Nat} {ve : Value} {E : List (Value × Nat)} (h : EAt base w b ve E) {v : Value} {m : UInt8} (hm : MkE base v.ownBlock m w w') {n k : Nat} {m' : UInt8} (ho : RowM base w m' v n k) : EAt base w' b ve E := by
  obtain ⟨⟨x, y, hx⟩, hr⟩ := h
  obtain ⟨xs, hv, _⟩ := ho.is
  have hne : ∀ (g : Nat) (cur : Array Value) (t : TypeId) z, w.heap[g]? = some (.cells cur t z) → t ≠ 47 → v.ownBlock ≠ some g := fun g cur t z hg ht e => by
    obtain ⟨_, _, c, hc⟩ := own_type hv g e
    exact ht (tagB_ne hg hc)
  refine ⟨⟨x, y, ?_⟩, own_same hr fun k hk hl => hm.other k hl ?_⟩
  · rw [hm.other b (Array.getElem?_eq_some_iff.1 hx).1 (hne _ _ _ _ hx (by decide))]
    exact hx
  · obtain ⟨_, _, c, hc⟩ := own_type hr k hk
    exact hne _ _ _ _ hc (by decide)
theorem RowsE.next {base : Nat} {w w' : World} {E : List (Value × Nat)} {i : Nat} (h : RowsE base w E i) (ha : AloneE E) {v : Value} {n : Nat} (hi : E[i]? = some (v, n)) (hm : MkE base v.ownBlock (markOf i) w w') (ho : RowM base w' (markOf i) v n n) : RowsE base w' E (i + 1) := fun j v' n' hj => by
  by_cases e : j = i
  · subst e
    rw [hi] at hj
    cases hj
    rw [if_pos (by omega)]
    exact ho
  · have h1 := h j v' n' hj
    have e2 : (if j < i + 1 then n' else 0) = (if j < i then n' else 0) := by
      by_cases hji : j < i
      · rw [if_pos hji, if_pos (by omega)]
      · rw [if_neg hji, if_neg (by omega)]
    rw [e2]
    exact hm.keep h1 fun k hk hk' => e (ha j i v' n' v n k hj hi hk hk')
/-- Made longer, i of them. -/
structure LE (w : World) (S base b : Nat) (ve : Value) (E : List (Value × Nat)) (i : Nat) (lv : Value) (longs : List Value) (wr : World) : Prop where
  rowG : wr.ownsRow base 25 1 lv (3 * i) longs
  fresh : ∀ k, lv.ownBlock = some k → S ≤ k
  lay : EAt base wr b ve E
  marks : ∀ (j : Nat) v n, E[j]? = some (v, n) → RowM base wr (markOf j) v n n
  long : ∀ (j : Nat) v n, j < i → E[j]? = some (v, n) → ∃ g h, longs[3 * j]? = some v ∧ longs[3 * j + 1]? = some g ∧ longs[3 * j + 2]? = some h ∧
    RowM base wr (markOf j) g (n + 20) (n + 20) ∧ RowM base wr (markOf j) h (n + 90) (n + 90) ∧
    (g.ownBlock = v.ownBlock ∨ ∃ k, g.ownBlock = some k ∧ S ≤ k) ∧ (h.ownBlock = v.ownBlock ∨ ∃ k, h.ownBlock = some k ∧ S ≤ k)
  size : S ≤ wr.heap.size
  below : Below base w wr
  old : ∀ k, ve.ownBlock = some k → k < S
  oldI : ∀ (j : Nat) v n k, E[j]? = some (v, n) → v.ownBlock = some k → k < S
  hb : base ≤ S
theorem RowM.own {base : Nat} {w : World} {m : UInt8} {v : Value} {n k : Nat} (h : RowM base w m v n k) (g : Nat) (hg : v.ownBlock = some g) : g < w.heap.size ∧ base ≤ g ∧ ∃ cur, w.heap[g]? = some (.cells cur 47 (0, 0)) := by
  obtain ⟨xs, hv, _⟩ := h.is
  exact own_type hv g hg
theorem LE.next {w : World} {S base b : Nat} {ve : Value} {E : List (Value × Nat)} {i : Nat} {lv : Value} {longs : List Value} {wi wg wh wL : World} (L : LE w S base b ve E i lv longs wi) (ha : AloneE E) {v : Value} {n : Nat} (hi : E[i]? = some (v, n))
    (m1 : MkE base v.ownBlock (markOf i) wi wg) {g h : Value} (hg : RowM base wg (markOf i) g (n + 20) (n + 20)) (bg : g.ownBlock = v.ownBlock ∨ ∃ k, g.ownBlock = some k ∧ wi.heap.size ≤ k)
    (m2 : MkE base v.ownBlock (markOf i) wg wh) (hh : RowM base wh (markOf i) h (n + 90) (n + 90)) (bh : h.ownBlock = v.ownBlock ∨ ∃ k, h.ownBlock = some k ∧ wg.heap.size ≤ k)
    {gL cL : Nat} (ho : wL.ownsRow base 25 1 (.slice (some ⟨gL, 0, none⟩) (3 * i + 3) cL) (3 * i + 3) (longs ++ [v, g, h])) (hgr : (wh.alloc (.cells #[v, g, h] 25)).grownBy wL lv.ownBlock) (hat : lv.ownBlock = some gL ∨ gL = (wh.alloc (.cells #[v, g, h] 25)).heap.size) :
    LE w S base b ve E (i + 1) (.slice (some ⟨gL, 0, none⟩) (3 * i + 3) cL) (longs ++ [v, g, h]) wL := by
  have M := m1.trans m2
  have hvS : ∀ k, v.ownBlock = some k → k < S := fun k hk => L.oldI i v n k hi hk
  have hrow := L.marks i v n hi
  have hvb : ∀ k, v.ownBlock = some k → base ≤ k := fun k hk => (hrow.own k hk).2.1
  have hz := L.size
  have hz1 := m1.size
  have hz2 := m2.size
  have hz3 := hgr.size
  simp only [World.alloc, Array.size_push] at hz3
  have lvh : wh.ownsRow base 25 1 lv (3 * i) longs := M.own L.rowG fun k hk e => by have := L.fresh k hk; have := hvS k e; omega
  have layh : EAt base wh b ve E := L.lay.marked M hrow
  have up : ∀ k : Nat, k < wh.heap.size → lv.ownBlock ≠ some k → wL.heap[k]? = wh.heap[k]? := fun k hk hkl => by
    rw [hgr.block k (by simp; omega) (fun e => hkl e.symm), Below.heap_alloc _ _ _ hk]
  have upT : ∀ (k : Nat) (cur : Array Value) (t : TypeId), t ≠ 25 → wh.heap[k]? = some (.cells cur t (0, 0)) → wL.heap[k]? = some (.cells cur t (0, 0)) := fun k cur t ht hk => by
    rw [up k (Array.getElem?_eq_some_iff.1 hk).1 fun e => ?_]
    · exact hk
    · obtain ⟨_, _, c', hc'⟩ := own_type lvh k e
      exact ht (tagB_ne hk hc')
  have upM : ∀ {m : UInt8} {u : Value} {n k : Nat}, RowM base wh m u n k → RowM base wL m u n k := fun {m u n k} hu => by
    obtain ⟨xs, h1, h3⟩ := hu.is
    refine ⟨xs, own_same h1 (fun k hk hl => ?_), fun j hj => ?_⟩
    · obtain ⟨_, _, c, hc⟩ := own_type h1 k hk
      rw [hc]; exact upT k c _ (by decide) hc
    · obtain ⟨u0, u1, f0, f1, hM⟩ := h3 j hj
      exact ⟨u0, u1, f0, f1, hM.stay (fun k cur hc => upT k cur _ (by decide) hc)⟩
  have hlen : longs.length = 3 * i := by have := L.rowG.1; simpa using this
  refine ⟨?_, ?_, ?_, ?_, ?_, by omega, ?_, L.old, L.oldI, L.hb⟩
  · exact ho
  · intro k hk
    cases hk
    rcases hat with e | e
    · exact L.fresh gL e
    · rw [e]; simp; omega
  · obtain ⟨⟨x, y, hx⟩, hr⟩ := layh
    refine ⟨⟨x, y, upT b _ _ (by decide) hx⟩, own_same hr fun k hk hl => up k hl fun e => ?_⟩
    have := L.fresh k e
    have := L.old k hk
    omega
  · intro j v' n' hj
    by_cases e : j = i
    · subst e
      rw [hi] at hj
      cases hj
      exact upM (M.row hrow)
    · exact upM (M.keep (L.marks j v' n' hj) fun k hk hk' => e (ha j i v' n' v n k hj hi hk hk'))
  · intro j v' n' hji hj
    by_cases e : j = i
    · subst e
      rw [hi] at hj
      cases hj
      refine ⟨g, h, by rw [List.getElem?_append_right (by omega), hlen, Nat.sub_self]; rfl, by rw [List.getElem?_append_right (by omega), hlen, show 3 * j + 1 - 3 * j = 1 by omega]; rfl, by rw [List.getElem?_append_right (by omega), hlen, show 3 * j + 2 - 3 * j = 2 by omega]; rfl, upM (m2.row hg), upM hh, ?_, ?_⟩
      · rcases bg with e | ⟨k, e, hk⟩
        · exact .inl e
        · exact .inr ⟨k, e, by omega⟩
      · rcases bh with e | ⟨k, e, hk⟩
        · exact .inl e
        · exact .inr ⟨k, e, by omega⟩
    · obtain ⟨g', h', e0, e1, e2, r1, r2, b1, b2⟩ := L.long j v' n' (by omega) hj
      have away : ∀ u : Value, (u.ownBlock = v'.ownBlock ∨ ∃ k, u.ownBlock = some k ∧ S ≤ k) → ∀ k, u.ownBlock = some k → v.ownBlock ≠ some k := fun u hu k hk hk' => by
        rcases hu with h1 | ⟨k2, h1, h2⟩
        · exact e (ha j i v' n' v n k hj hi (by rw [← h1]; exact hk) hk')
        · rw [h1] at hk
          obtain rfl : k2 = k := Option.some.inj hk
          have := hvS k2 hk'
          omega
      refine ⟨g', h', by rw [List.getElem?_append_left (by omega)]; exact e0, by rw [List.getElem?_append_left (by omega)]; exact e1, by rw [List.getElem?_append_left (by omega)]; exact e2, upM (M.keep r1 (away g' b1)), upM (M.keep r2 (away h' b2)), b1, b2⟩
  · have hbS := L.hb
    refine L.below.trans ⟨?_, ?_, ?_, by omega, fun k hk => ?_⟩
    · exact hgr.os.trans M.os
    · exact hgr.tape.trans M.tape
    · exact hgr.output.trans M.output
    · rw [up k (by omega) (fun e => by have := (own_type lvh k e).2.1; omega)]
      exact M.other k (by omega) (fun e => by have := hvb k e; omega)
theorem LE.here {w : World} {S base b : Nat} {ve : Value} {E : List (Value × Nat)} {i : Nat} {lv : Value} {longs : List Value} {wr wr' : World} (L : LE w S base b ve E i lv longs wr) (hb : Below wr.heap.size wr wr') : LE w S base b ve E i lv longs wr' :=
  ⟨own_same L.rowG fun k _ hk => hb.block k hk, L.fresh, L.lay.here hb, fun j v n hj => (L.marks j v n hj).here hb, fun j v n hji hj => by
    obtain ⟨g, h, e0, e1, e2, r1, r2, b1, b2⟩ := L.long j v n hji hj
    exact ⟨g, h, e0, e1, e2, r1.here hb, r2.here hb, b1, b2⟩, Nat.le_trans L.size hb.size, L.below.trans (hb.mono (Nat.le_trans L.hb L.size)), L.old, L.oldI, L.hb⟩
set_option maxHeartbeats 3200000 in
set_option maxRecDepth 100000 in
theorem outer_any (w : World) (base b : Nat) (ve : Value) (E : List (Value × Nat)) (H : EAt base w b ve E) (hR : RowsE base w E 0) (ha : AloneE E) (hbase : base ≤ w.heap.size) (hil : E.length ≤ 68719476736) (hbl : ∀ (i : Nat) v n, E[i]? = some (v, n) → n ≤ 1099511627776) :
    Calls Try.prog 39 #[.pointer (some ⟨b, 0, none⟩)] w fun e w' => e = .returned (.bool true) ∧ Below base w w' := by
  have HH : Hid (EAt base w b ve E) := H
  have HR : Hid (RowsE base w E 0) := hR
  have HAL : Hid (AloneE E) := ha
  have HBL : Hid (∀ (i : Nat) v n, E[i]? = some (v, n) → n ≤ 1099511627776) := hbl
  obtain ⟨al, cl, rfl⟩ := own_shape1 H.row
  clear H hR ha hbl
  go_enter Try.func39, Try.ntmps39
  go_wp2_with fail
  go_loopw [3] (fun s wr => ∃ i : Nat, i ≤ E.length ∧ s = .int .i64 (i : Int) ∧ EAt base wr b (.slice al E.length cl) E ∧ RowsE base wr E i ∧ Below base w wr ∧ base ≤ wr.heap.size) (fun s _ => E.length - (intOf s).toNat)
  case atStart => exact ⟨0, by omega, rfl, HH.out, HR.out, Below.refl _ _, hbase⟩
  case round =>
    clear HH HR
    obtain ⟨i, hi, rfl, hE, hRr, hbe, hbs⟩ := hrel
    have HE : Hid _ := hE
    have HRr : Hid _ := hRr
    have HBE : Hid _ := hbe
    have HBS : Hid (base ≤ wr.heap.size) := hbs
    have p2 := hE.cell
    by_cases hlt : i < E.length
    · have hiz : (i : Int) < (E.length : Int) := by omega
      obtain ⟨⟨v, n⟩, hv⟩ : ∃ x, E[i]? = some x := ⟨_, List.getElem?_eq_getElem hlt⟩
      have HV : Hid (E[i]? = some (v, n)) := hv
      obtain ⟨gl, cl', e1, q1, _⟩ := rowT_at hE.row i v (by rw [List.getElem?_map, hv]; rfl)
      cases e1
      have hrow := hRr i v n hv
      rw [if_neg (by omega)] at hrow
      have HROW : Hid (RowM base wr (markOf i) v n 0) := hrow
      have hLB : n ≤ 1099511627776 := HBL.out i v n hv
      obtain ⟨av, cv, rfl⟩ := hrow.form
      obtain ⟨w2, rfl⟩ : ∃ w2, w2 = wr := ⟨_, rfl⟩
      clear hE hRr hbe hbs hv hrow
      go_wp2_with fail
      clear p2 q1
      go_loopw [4] (fun s wr => ∃ k : Nat, k ≤ n ∧ s = .int .i64 (k : Int) ∧ RowM base wr (markOf i) (.slice av n cv) n k ∧ MkE base (Value.slice av n cv).ownBlock (markOf i) w2 wr) (fun s _ => n - (intOf s).toNat)
      case atStart => exact ⟨0, by omega, rfl, HROW.out, MkE.refl _ _ _ _⟩
      case round =>
        obtain ⟨k, hk, rfl, hown, hmk⟩ := hrel
        have HOWN : Hid _ := hown
        have HMK : Hid _ := hmk
        have hE2 := HE.out.marked hmk HROW.out
        have HE2 : Hid _ := hE2
        have p2 := hE2.cell
        obtain ⟨gl', cl', e1, q1, curl, hcurl⟩ := rowT_at hE2.row i _ (by rw [List.getElem?_map, HV.out]; rfl)
        cases e1
        by_cases hkl : k < n
        · have hkz : (k : Int) < (n : Int) := by omega
          obtain ⟨xs, ho, _⟩ := hown.is
          rcases ho.2 with ⟨_, e⟩ | ⟨q, cv', cur, e, hbq, hgq, hcc, _, hsz, _⟩
          · omega
          cases e
          have hfz : ∀ j, wr.frozen? ⟨q, j, none⟩ = false := fun j => row_frozen hgq j
          have hf0 := hfz (k * 2)
          have hf1 := hfz (k * 2 + 1)
          obtain ⟨z0, hz0⟩ : ∃ z, wr.cell? ⟨q, k * 2, none⟩ = some z := ⟨_, by rw [row_cell hgq]; exact Array.getElem?_eq_getElem (by omega)⟩
          obtain ⟨z1, hz1⟩ : ∃ z, wr.cell? ⟨q, k * 2 + 1, none⟩ = some z := ⟨_, by rw [row_cell hgq]; exact Array.getElem?_eq_getElem (by omega)⟩
          have hql : q < wr.heap.size := (Array.getElem?_eq_some_iff.1 hgq).1
          obtain ⟨xb, yb, hxb⟩ := hE2.book
          have n1 : ¬ b = q := fun e => by rw [← e] at hgq; exact absurd (tagB_ne hgq hxb) (by decide)
          have n2 : ¬ gl = q := fun e => by rw [← e] at hgq; exact absurd (tagB_ne hgq hcurl) (by decide)
          have n3 : ¬ q = b := fun e => n1 e.symm
          have n4 : ¬ q = gl := fun e => n2 e.symm
          have HBS2 : Hid (base ≤ wr.heap.size) := Nat.le_trans HBS.out hmk.size
          have HFI := HOWN.out.fill hkl HBS2.out
          have HF : Hid _ := HFI
          clear HFI hxb
          have HGQ : Hid (wr.heap[q]? = some (.cells cur 47 (0, 0))) := hgq
          clear hown hmk hE2 hcurl hfz ho hgq
          go_wp2_with fail
          go_region_held_law (fun W => W.cell? ⟨b, 2, none⟩ = some (.slice (some ⟨gl, 0, none⟩) E.length cl) ∧ W.cell? ⟨gl, i, none⟩ = some (.slice (some ⟨q, 0, none⟩) n cv)) (go_keep)
            (first
              | (go_at_call 37; refine (mark_any i _ (by omega)).mono ?_; rintro _ _ ⟨rfl, rfl⟩))
          go_wp2_with fail
          exact ⟨⟨k + 1, by omega, by go_num, HF.out.1, HMK.out.trans HF.out.2⟩, by simp [intOf]; omega⟩
        · have hkz : ¬ (k : Int) < (n : Int) := by omega
          have HK : Hid (k = n) := by rw [Hid]; omega
          have HROWM : Hid (RowM base wr (markOf i) (.slice av n cv) n n) := by have := HOWN.out; rw [HK.out] at this; exact this
          have HBE2 : Hid (Below base w wr) := HBE.out.trans (hmk.below base HBS.out fun g hg => (HROW.out.own g hg).2.1)
          have HBS2 : Hid (base ≤ wr.heap.size) := Nat.le_trans HBS.out hmk.size
          clear hown hmk hE2 hcurl
          go_wp2_with fail
          exact ⟨⟨i + 1, by omega, by go_num, HE2.out, RowsE.next (base := base) (E := E) (i := i) HRr.out HAL.out HV.out HMK.out HROWM.out, HBE2.out, HBS2.out⟩, by simp [intOf]; omega⟩
    · have hiz : ¬ (i : Int) < (E.length : Int) := by omega
      have HRM : Hid (∀ (j : Nat) v n, E[j]? = some (v, n) → RowM base wr (markOf j) v n n) := fun j v n hj => by
        have := hRr j v n hj
        rw [if_pos (by have := (List.getElem?_eq_some_iff.1 hj).1; omega)] at this
        exact this
      obtain ⟨w3, rfl⟩ : ∃ w3, w3 = wr := ⟨_, rfl⟩
      obtain ⟨i7, hi7, hz70, hz71, hz72⟩ := infoEs2
      have HS : Hid (LE w w3.heap.size base b (.slice al E.length cl) E 0 (.slice none 0 0) [] w3) :=
        ⟨World.ownsRow_nil _ _ _ _, (fun k hk => by cases hk), HE.out, HRM.out, (fun j v n hj => by omega), Nat.le_refl _, HBE.out, (fun k hk => (own_type HE.out.row k hk).1), (fun j v n k hj hk => ((HRM.out j v n hj).own k hk).1), HBS.out⟩
      clear hE hRr hbe hbs HRr
      go_wp2_with fail
      clear p2 hlt hi HE HRM HBE HBS
      go_loopw [6, 5] (fun s t wr => ∃ (i : Nat) (lv : Value) (longs : List Value), i ≤ E.length ∧ s = .int .i64 (i : Int) ∧ lv = t ∧ LE w w3.heap.size base b (.slice al E.length cl) E i lv longs wr) (fun s _ _ => E.length - (intOf s).toNat)
      case atStart => exact ⟨0, _, [], by omega, rfl, rfl, HS.out⟩
      case round =>
        clear HS
        obtain ⟨i, lv, longs, hi, rfl, rfl, hL⟩ := hrel
        have HL : Hid _ := hL
        have p2 := hL.lay.cell
        by_cases hlt : i < E.length
        · have hiz : (i : Int) < (E.length : Int) := by omega
          obtain ⟨⟨v, n⟩, hv⟩ : ∃ x, E[i]? = some x := ⟨_, List.getElem?_eq_getElem hlt⟩
          have HV : Hid (E[i]? = some (v, n)) := hv
          obtain ⟨gl, cl', e1, q1, _⟩ := rowT_at hL.lay.row i v (by rw [List.getElem?_map, hv]; rfl)
          cases e1
          have HROW : Hid (RowM base wr (markOf i) v n n) := hL.marks i v n hv
          have hLB : n ≤ 1099511627776 := HBL.out i v n hv
          have HBS : Hid (base ≤ wr.heap.size) := Nat.le_trans hL.hb hL.size
          obtain ⟨wi, rfl⟩ : ∃ wi, wi = wr := ⟨_, rfl⟩
          obtain ⟨av, cv, rfl⟩ := HROW.out.form
          clear hL hv
          go_wp2_with fail
          clear p2 q1
          go_loopw [8, 7] (fun s t wr => ∃ (k : Nat) (x : Value), k ≤ 20 ∧ s = .int .i64 (k : Int) ∧ x = t ∧ RowM base wr (markOf i) x (n + k) (n + k) ∧ MkE base (Value.slice av n cv).ownBlock (markOf i) wi wr ∧ (x.ownBlock = (Value.slice av n cv).ownBlock ∨ ∃ g, x.ownBlock = some g ∧ wi.heap.size ≤ g)) (fun s _ _ => 20 - (intOf s).toNat)
          case atStart => exact ⟨0, _, by omega, rfl, rfl, HROW.out, MkE.refl _ _ _ _, .inl rfl⟩
          case round =>
            obtain ⟨k, x, hk, rfl, rfl, hx, hmk, hxb⟩ := hrel
            have HX : Hid _ := hx
            have HMK : Hid _ := hmk
            have HXB : Hid (x.ownBlock = (Value.slice av n cv).ownBlock ∨ ∃ g, x.ownBlock = some g ∧ wi.heap.size ≤ g) := hxb
            have HBS2 : Hid (base ≤ wr.heap.size) := Nat.le_trans HBS.out hmk.size
            obtain ⟨ax, cx, rfl⟩ := hx.form
            clear hx hmk hxb
            by_cases hk20 : k < 20
            · have hkz : (k : Int) < 20 := by omega
              go_wp2_with fail
              refine (mark_any i _ (by omega)).mono ?_
              rintro _ wx ⟨rfl, hwx⟩
              rw [hwx]
              clear hwx
              have HB8 : Hid (Below wr.heap.size wr (wr.alloc (.cells #[.int .u8 ((markOf i).toNat : Int)] 5))) := (Below.refl _ _).alloc (Nat.le_refl _) _
              have HIM : Hid (IsM base (wr.alloc (.cells #[.int .u8 ((markOf i).toNat : Int)] 5)) (markOf i) (.slice (some ⟨wr.heap.size, 0, none⟩) 1 1) (.slice none 0 0)) := ⟨⟨_, rfl, HBS2.out, heap_alloc_last wr _⟩, rfl⟩
              have HXA : Hid _ := HX.out.here HB8.out
              go_wp2_with (first
                | (at_builtin; refine wpList_append_markE rfl _ _ rfl base (wr.alloc (.cells #[.int .u8 ((markOf i).toNat : Int)] 5)) (markOf i) _ _ rfl HIM.out _ (n + k) rfl HXA.out (wr.heap.size + 1) (by simp) rfl (by omega) (Nat.le_trans HBS2.out HB8.out.size) ?_
                   intro x2 w4 hx2 hm2 hb2
                   have HX2 : Hid _ := hx2
                   have HM2 : Hid _ := (MkE.of_below HB8.out).trans hm2
                   have HB2 : Hid (x2.ownBlock = (Value.slice ax (n + k) cx).ownBlock ∨ ∃ g, x2.ownBlock = some g ∧ wr.heap.size ≤ g) := hb2.imp id (fun ⟨g, e, hg⟩ => ⟨g, e, Nat.le_trans HB8.out.size hg⟩)
                   clear hx2 hm2 hb2))
              refine ⟨⟨k + 1, x2, by omega, by go_num, rfl, HX2.out, HMK.out.step HM2.out HXB.out, ?_⟩, by simp [intOf]; omega⟩
              rcases HB2.out with e | ⟨g, e, hg⟩
              · rw [e]; exact HXB.out
              · exact .inr ⟨g, e, Nat.le_trans HMK.out.size hg⟩
            · have hk2z : ¬ ((k : Int) < 20) := by omega
              have HX20 : Hid (RowM base wr (markOf i) (.slice ax (n + k) cx) (n + 20) (n + 20)) := by
                have e : k = 20 := by omega
                have := HX.out
                rw [e] at this ⊢
                exact this
              have hLg := HL.out.lay.marked HMK.out HROW.out
              have HLg : Hid _ := hLg
              have p2 := hLg.cell
              obtain ⟨gl', cl', e1, q1, _⟩ := rowT_at hLg.row i _ (by rw [List.getElem?_map, HV.out]; rfl)
              cases e1
              have HROWg : Hid (RowM base wr (markOf i) (.slice av n cv) n n) := HMK.out.row HROW.out
              obtain ⟨wg, rfl⟩ : ∃ wg, wg = wr := ⟨_, rfl⟩
              clear hLg
              go_wp2_with fail
              clear p2 q1
              go_loopw [10, 9] (fun s t wr => ∃ (k : Nat) (y : Value), k ≤ 90 ∧ s = .int .i64 (k : Int) ∧ y = t ∧ RowM base wr (markOf i) y (n + k) (n + k) ∧ MkE base (Value.slice av n cv).ownBlock (markOf i) wg wr ∧ (y.ownBlock = (Value.slice av n cv).ownBlock ∨ ∃ g, y.ownBlock = some g ∧ wg.heap.size ≤ g)) (fun s _ _ => 90 - (intOf s).toNat)
              case atStart => exact ⟨0, _, by omega, rfl, rfl, HROWg.out, MkE.refl _ _ _ _, .inl rfl⟩
              case round =>
                obtain ⟨k2, y, hk2, rfl, rfl, hy, hmy, hyb⟩ := hrel
                have HY : Hid _ := hy
                have HMY : Hid _ := hmy
                have HYB : Hid (y.ownBlock = (Value.slice av n cv).ownBlock ∨ ∃ g, y.ownBlock = some g ∧ wg.heap.size ≤ g) := hyb
                have HBS3 : Hid (base ≤ wr.heap.size) := Nat.le_trans HBS2.out hmy.size
                obtain ⟨ay, cy, rfl⟩ := hy.form
                clear hy hmy hyb
                by_cases hk90 : k2 < 90
                · have hkz : (k2 : Int) < 90 := by omega
                  go_wp2_with fail
                  refine (mark_any i _ (by omega)).mono ?_
                  rintro _ wx ⟨rfl, hwx⟩
                  rw [hwx]
                  clear hwx
                  have HB8 : Hid (Below wr.heap.size wr (wr.alloc (.cells #[.int .u8 ((markOf i).toNat : Int)] 5))) := (Below.refl _ _).alloc (Nat.le_refl _) _
                  have HIM : Hid (IsM base (wr.alloc (.cells #[.int .u8 ((markOf i).toNat : Int)] 5)) (markOf i) (.slice (some ⟨wr.heap.size, 0, none⟩) 1 1) (.slice none 0 0)) := ⟨⟨_, rfl, HBS3.out, heap_alloc_last wr _⟩, rfl⟩
                  have HYA : Hid _ := HY.out.here HB8.out
                  go_wp2_with (first
                    | (at_builtin; refine wpList_append_markE rfl _ _ rfl base (wr.alloc (.cells #[.int .u8 ((markOf i).toNat : Int)] 5)) (markOf i) _ _ rfl HIM.out _ (n + k2) rfl HYA.out (wr.heap.size + 1) (by simp) rfl (by omega) (Nat.le_trans HBS3.out HB8.out.size) ?_
                       intro y2 w4 hy2 hm2 hb2
                       have HY2 : Hid _ := hy2
                       have HM2 : Hid _ := (MkE.of_below HB8.out).trans hm2
                       have HB2 : Hid (y2.ownBlock = (Value.slice ay (n + k2) cy).ownBlock ∨ ∃ g, y2.ownBlock = some g ∧ wr.heap.size ≤ g) := hb2.imp id (fun ⟨g, e, hg⟩ => ⟨g, e, Nat.le_trans HB8.out.size hg⟩)
                       clear hy2 hm2 hb2))
                  refine ⟨⟨k2 + 1, y2, by omega, by go_num, rfl, HY2.out, HMY.out.step HM2.out HYB.out, ?_⟩, by simp [intOf]; omega⟩
                  rcases HB2.out with e | ⟨g, e, hg⟩
                  · rw [e]; exact HYB.out
                  · exact .inr ⟨g, e, Nat.le_trans HMY.out.size hg⟩
                · have hk9z : ¬ ((k2 : Int) < 90) := by omega
                  have HY90 : Hid (RowM base wr (markOf i) (.slice ay (n + k2) cy) (n + 90) (n + 90)) := by
                    have e : k2 = 90 := by omega
                    have := HY.out
                    rw [e] at this ⊢
                    exact this
                  have HXh : Hid (RowM base wr (markOf i) (.slice ax (n + k) cx) (n + 20) (n + 20)) := HMY.out.row HX20.out
                  have HLV : Hid (wr.ownsRow base 25 1 lv (3 * i) longs) := by
                    have L := HL.out
                    refine (HMK.out.trans HMY.out).own L.rowG fun k hk e => ?_
                    have := L.fresh k hk
                    have := L.oldI i _ n k HV.out e
                    omega
                  have hLh := HLg.out.marked HMY.out HROWg.out
                  have p2 := hLh.cell
                  obtain ⟨gl', cl', e1, q1, _⟩ := rowT_at hLh.row i _ (by rw [List.getElem?_map, HV.out]; rfl)
                  cases e1
                  have HLVA : Hid ((wr.alloc (.cells #[.slice av n cv, .slice ax (n + k) cx, .slice ay (n + k2) cy] 25)).ownsRow base 25 1 lv (3 * i) longs) := own_same HLV.out fun k _ hk => Below.heap_alloc _ _ _ hk
                  have HNW : Hid (∀ (j : Nat) (u : Value), [Value.slice av n cv, Value.slice ax (n + k) cx, Value.slice ay (n + k2) cy][j]? = some u → (wr.alloc (.cells #[.slice av n cv, .slice ax (n + k) cx, .slice ay (n + k2) cy] 25)).cell? ((⟨wr.heap.size, 0, none⟩ : Addr).add j) = some u) := fun j u hj => by
                    rw [add_at, row_cell (heap_alloc_last wr _), Nat.zero_add]
                    simpa using hj
                  have HONE : Hid (∀ u ∈ [Value.slice av n cv, Value.slice ax (n + k) cx, Value.slice ay (n + k2) cy], u.oneCell' = true) := fun u hu => by
                    simp at hu
                    rcases hu with rfl | rfl | rfl <;> rfl
                  obtain ⟨alv, clv, rfl⟩ := own_shape1 HLV.out
                  clear hLh
                  go_wp2_with (first
                    | (at_builtin; refine wpList_append_lies _ rfl _ _ 29 rfl base 25 i7 (.slice none 0 0) 1 24 Try.underlying29 hi7 hz70 hz71 hz72 rfl (by decide) _ (3 * i) longs rfl HLVA.out ⟨wr.heap.size, 0, none⟩ 3 3 [.slice av n cv, .slice ax (n + k) cx, .slice ay (n + k2) cy] rfl rfl HNW.out HONE.out (by decide) (by unfold maxLen; omega) (by omega) (by have := HBS3.out; simp; omega) _ rfl ?_
                       intro gL cL wL hoL hgL hatL hltL
                       have HN : Hid (LE w w3.heap.size base b (.slice (some ⟨gl, 0, none⟩) E.length cl) E (i + 1) (.slice (some ⟨gL, 0, none⟩) (3 * i + 3) cL) (longs ++ [.slice av n cv, .slice ax (n + k) cx, .slice ay (n + k2) cy]) wL) := HL.out.next HAL.out HV.out HMK.out HX20.out HXB.out HMY.out HY90.out HYB.out hoL hgL hatL
                       clear hoL hgL hatL hltL))
                  exact ⟨⟨i + 1, _, _, by omega, by go_num, rfl, HN.out⟩, by simp [intOf]; omega⟩
        · have hiz : ¬ (i : Int) < (E.length : Int) := by omega
          have HI : Hid (i = E.length) := by rw [Hid]; omega
          have HALL : Hid (∀ t, t < 3 * E.length → ∃ v n, longs[t]? = some v ∧ RowM base wr (markOf (t / 3)) v n n ∧ n ≤ 2199023255552) := fun t ht => by
            have hj : t / 3 < E.length := by omega
            obtain ⟨⟨v, n⟩, hv⟩ : ∃ x, E[t / 3]? = some x := ⟨_, List.getElem?_eq_getElem hj⟩
            obtain ⟨g, h, e0, e1, e2, r1, r2, _, _⟩ := HL.out.long (t / 3) v n (by rw [HI.out]; exact hj) hv
            have hb := HBL.out (t / 3) v n hv
            have hc : t = 3 * (t / 3) ∨ t = 3 * (t / 3) + 1 ∨ t = 3 * (t / 3) + 2 := by omega
            rcases hc with hc | hc | hc
            · exact ⟨v, n, by rw [← hc] at e0; exact e0, HL.out.marks _ _ _ hv, by omega⟩
            · exact ⟨g, n + 20, by rw [← hc] at e1; exact e1, r1, by omega⟩
            · exact ⟨h, n + 90, by rw [← hc] at e2; exact e2, r2, by omega⟩
          have HG : Hid (wr.ownsRow base 25 1 lv (3 * E.length) longs) := by have := HL.out.rowG; rw [HI.out] at this; exact this
          have HBEL : Hid (Below base w wr) := HL.out.below
          have HBS : Hid (base ≤ wr.heap.size) := Nat.le_trans hL.hb hL.size
          obtain ⟨w5, rfl⟩ : ∃ w5, w5 = wr := ⟨_, rfl⟩
          obtain ⟨N, hN⟩ : ∃ N, N = 3 * E.length := ⟨_, rfl⟩
          have hNl : N ≤ 206158430208 := by omega
          rw [← hN] at HALL HG
          obtain ⟨alv, clv, rfl⟩ := own_shape1 HG.out
          clear hL hN
          go_wp2_with fail
          clear p2 hlt hi
          go_loopw [11] (fun s wr => ∃ t : Nat, t ≤ N ∧ s = .int .i64 (t : Int) ∧ Below w5.heap.size w5 wr) (fun s _ => N - (intOf s).toNat)
          case atStart => exact ⟨0, by omega, rfl, Below.refl _ _⟩
          case round =>
            obtain ⟨t, ht, rfl, hb5⟩ := hrel
            have HB5 : Hid _ := hb5
            by_cases hlt : t < N
            · have htz : (t : Int) < (N : Int) := by omega
              obtain ⟨v, n, hv, hm, hnl⟩ := HALL.out t hlt
              obtain ⟨gv, cvl, e3, q3, _⟩ := rowT_at HG.out t v hv
              simp only [Value.slice.injEq] at e3
              obtain ⟨rfl, -, rfl⟩ := e3
              have HQ3 : Hid _ := q3
              have HGV : Hid (gv < w5.heap.size) := (own_type HG.out gv rfl).1
              have HM5 : Hid _ := hm
              obtain ⟨av, cv, rfl⟩ := hm.form
              obtain ⟨w6, rfl⟩ : ∃ w6, w6 = wr := ⟨_, rfl⟩
              have q3' : w6.cell? ⟨gv, t, none⟩ = some (.slice av n cv) := (hb5.cell (p := ⟨gv, t, none⟩) HGV.out).trans q3
              clear hb5 hv hm q3
              go_wp2_with fail
              clear q3'
              go_loopw [12] (fun s wr => ∃ k : Nat, k ≤ n ∧ s = .int .i64 (k : Int) ∧ Below w6.heap.size w6 wr) (fun s _ => n - (intOf s).toNat)
              case atStart => exact ⟨0, by omega, rfl, Below.refl _ _⟩
              case round =>
                obtain ⟨k, hk, rfl, hb6⟩ := hrel
                have HB6 : Hid (Below w5.heap.size w5 wr) := HB5.out.trans (hb6.mono HB5.out.size)
                have HB66 : Hid _ := hb6
                have q3 : wr.cell? ⟨gv, t, none⟩ = some (.slice av n cv) := (HB6.out.cell (p := ⟨gv, t, none⟩) HGV.out).trans HQ3.out
                clear hb6
                by_cases hkl : k < n
                · have hkz : (k : Int) < (n : Int) := by omega
                  obtain ⟨xs, ho, hms⟩ := (HM5.out.here HB6.out).is
                  obtain ⟨u0, u1, f0, f1, ⟨gk, eu, _, hgk⟩, _⟩ := hms k hkl
                  rcases ho.2 with ⟨_, e⟩ | ⟨q, cv', cur, e, _, hgq, _, _, hsz, htk⟩
                  · omega
                  cases e
                  subst eu
                  rw [xs_cell htk (by omega), ← row_cell hgq] at f0
                  have f2 : wr.cell? ⟨gk, 0, none⟩ = some (.int .u8 ((markOf (t / 3)).toNat : Int)) := by rw [row_cell hgk]; rfl
                  obtain ⟨d, hd⟩ : ∃ d, d = t / 3 := ⟨_, rfl⟩
                  rw [← hd] at f2
                  have hd1 : (t : Int).tdiv 3 = (d : Int) := by rw [Int.tdiv_eq_ediv_of_nonneg (by omega)]; omega
                  have hd2 : (t : Int) / 3 = (d : Int) := by omega
                  have hdl : d ≤ 206158430208 := by omega
                  clear ho hms f1 hgk hgq htk hsz hd
                  go_wp2_with fail
                  go_quiet (first
                    | (go_at_call 37; exact Calls.quiet_of_same (mark_any d _ (by omega))))
                  go_wp2_with fail
                  exact ⟨⟨k + 1, by omega, by go_num, below_draws HB66.out _⟩, by simp [intOf]; omega⟩
                · have hkz : ¬ (k : Int) < (n : Int) := by omega
                  go_wp2_with fail
                  exact ⟨⟨t + 1, by omega, by go_num, HB6.out⟩, by simp [intOf]; omega⟩
            · have htz : ¬ (t : Int) < (N : Int) := by omega
              clear hb5
              go_wp2_with fail
              go_ret
              exact ⟨rfl, HBEL.out.trans (HB5.out.mono HBS.out)⟩
end Go.Proofs.Ytgifnaahahfhbaa
