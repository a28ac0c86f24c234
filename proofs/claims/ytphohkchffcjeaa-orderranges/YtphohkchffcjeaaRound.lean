/- The law's Book: round. -/
import Derived.Test.YtphohkchffcjeaaLay
import Derived.BigQuiet
import Derived.Deep.RegionHeldLaw
namespace Go.Proofs.Ytphohkchffcjeaa
open Go.RowKit

theorem mark_facts (d i : Nat) : ∃ e : Nat, (i : Int).tdiv (d : Int) = (e : Int) ∧ i / d = e ∧ e ≤ i ∧ 1 + (e : Int) % 200 = ((markOf d i).toNat : Int) := by
  refine ⟨i / d, by simp, rfl, Nat.div_le_self _ _, ?_⟩
  rw [mark_toNat]
  omega
/-- Seventy bytes, k of them marked. -/
def part70 (m : UInt8) (k : Nat) : Key := List.replicate k m ++ List.replicate (70 - k) 0
theorem part70_next (m : UInt8) (k : Nat) (hk : k < 70) : (part70 m k).set k m = part70 m (k + 1) := by
  unfold part70
  have e : 70 - k = (70 - (k + 1)) + 1 := by omega
  rw [e, List.replicate_succ, List.set_append_right _ _ (by simp), List.replicate_succ' (n := k)]
  simp
theorem part70_at (m : UInt8) (k : Nat) (hk : k < 70) : (part70 m k)[k]? = some 0 := by
  unfold part70
  rw [List.getElem?_append_right (by simp), List.length_replicate, Nat.sub_self, List.getElem?_replicate, if_pos (by omega)]
theorem part70_all (m : UInt8) : part70 m 70 = List.replicate 70 m := by simp [part70]
theorem one_src (W : World) (m : UInt8) (j : Nat) (hj : j < 1) : (W.alloc (.cells #[.int .u8 (m.toNat : Int)] 5)).cell? ((⟨W.heap.size, 0, none⟩ : Addr).add j) = some (encB m) := by
  obtain rfl : j = 0 := by omega
  rw [add_at, Nat.zero_add, row_cell (heap_alloc_last W _)]
  rfl

set_option maxHeartbeats 6400000 in
set_option maxRecDepth 100000 in
theorem round_any (d : Nat) (hd : d = 1 ∨ d = 200) (w : World) (base b : Nat) (l0 l1 vl vw : Value) (items : List (Value × Key)) (H : Lay w base b l0 l1 vl vw items) (hI : ∀ (i : Nat) v bs, items[i]? = some (v, bs) → w.ownsRow base 5 1 v bs.length (bs.map encB)) (hA : Alone items) (hbase : base ≤ w.heap.size) (hil : items.length ≤ 1000000) (hbl : ∀ (i : Nat) v bs, items[i]? = some (v, bs) → bs.length ≤ 140737488351240) :
    Calls Try.prog 55 #[.pointer (some ⟨b, 2, none⟩), .int .i64 (d : Int)] w fun e w' => e = .returned (.bool true) ∧ Below base w w' ∧ base ≤ w'.heap.size ∧ Lay w' base b l0 l1 vl vw items ∧ ∀ (j : Nat) v bs, items[j]? = some (v, bs) → w'.ownsRow base 5 1 v bs.length (List.replicate bs.length (encB (markOf d j))) := by
  obtain ⟨al, cl, rfl⟩ := H.len
  have HH : Hid (Lay w base b l0 l1 (.slice al items.length cl) vw items) := H
  have HI : Hid (Rows2 d w base items 0) := fun j v bs hj => by simpa using hI j v bs hj
  have HBL : Hid _ := hbl
  have HAL : Hid (Alone items) := hA
  have HD : Hid (d = 1 ∨ d = 200) := hd
  have hd0 : (d : Int) ≠ 0 := by omega
  have hd1 : d ≠ 0 := by omega
  have hd2 : (d : Int) ≤ 200 := by omega
  have hd3 : (0 : Int) < d := by omega
  clear H hI hbl hA hd
  go_enter Try.func55, Try.ntmps55
  go_wp2
  go_loopw [5] (fun s wr => ∃ i : Nat, i ≤ items.length ∧ s = .int .i64 i ∧ Lay wr base b l0 l1 (.slice al items.length cl) vw items ∧ Rows2 d wr base items i ∧ Below base w wr ∧ base ≤ wr.heap.size) (fun s _ => items.length - (intOf s).toNat)
  case atStart => exact ⟨0, by omega, rfl, HH.out, HI.out, Below.refl _ _, hbase⟩
  case round =>
    clear HH HI
    obtain ⟨i, hi, rfl, hL, hR, hbe, hbs⟩ := hrel
    have HL : Hid (Lay wr base b l0 l1 (.slice al items.length cl) vw items) := hL
    have HR : Hid (Rows2 d wr base items i) := hR
    have HBE : Hid (Below base w wr) := hbe
    have HBS : Hid (base ≤ wr.heap.size) := hbs
    obtain ⟨p0, p1⟩ := hL.book
    by_cases hlt : i < items.length
    · have hiz : (i : Int) < (items.length : Int) := by omega
      obtain ⟨⟨v, bs⟩, hv⟩ : ∃ x, items[i]? = some x := ⟨_, List.getElem?_eq_getElem hlt⟩
      have HV : Hid (items[i]? = some (v, bs)) := hv
      obtain ⟨gl, cl', e1, q1, _⟩ := hL.at i v bs hv
      cases e1
      have hrow := hR i v bs hv
      rw [if_neg (by omega)] at hrow
      have HROW : Hid (wr.ownsRow base 5 1 v bs.length (bs.map encB)) := hrow
      have hLB : bs.length ≤ 140737488351240 := HBL.out i v bs hv
      obtain ⟨e, m1, m2, m5, m7⟩ := mark_facts d i
      have HM : Hid (1 + (e : Int) % 200 = ((markOf d i).toNat : Int)) := m7
      have m5z : (e : Int) ≤ (i : Int) := by omega
      obtain ⟨w2, rfl⟩ : ∃ w2, w2 = wr := ⟨_, rfl⟩
      clear hL hR hbe hbs hv hrow m7
      go_wp2
      clear p0 p1 q1
      go_loopw [6] (fun s wr => ∃ k : Nat, k ≤ bs.length ∧ s = .int .i64 k ∧ wr.ownsRow base 5 1 v bs.length ((List.replicate k (markOf d i) ++ bs.drop k).map encB) ∧ Marked v.ownBlock (markOf d i) w2 wr) (fun s _ => bs.length - (intOf s).toNat)
      case atStart => exact ⟨0, by omega, rfl, by simpa using HROW.out, Marked.refl _ _ _⟩
      case round =>
        obtain ⟨k, hk, rfl, hown, hmk⟩ := hrel
        have HOWN : Hid (wr.ownsRow base 5 1 v bs.length ((List.replicate k (markOf d i) ++ bs.drop k).map encB)) := hown
        have HMK : Hid (Marked v.ownBlock (markOf d i) w2 wr) := hmk
        have HL2 : Hid (Lay wr base b l0 l1 (.slice (some ⟨gl, 0, none⟩) items.length cl) vw items) := HL.out.marked hmk HROW.out
        obtain ⟨p0, p1⟩ := HL2.out.book
        obtain ⟨gl', cl', e1, q1, curl, hcurl⟩ := HL2.out.at i v bs HV.out
        cases e1
        by_cases hkl : k < bs.length
        · have hkz : (k : Int) < (bs.length : Int) := by omega
          rcases hown.2 with ⟨_, e⟩ | ⟨q, cv, cur, rfl, hbq, hgq, _⟩
          · omega
          obtain ⟨z, hz⟩ : ∃ z, ((List.replicate k (markOf d i) ++ bs.drop k).map encB)[k]? = some z := ⟨_, List.getElem?_eq_getElem (by simp; omega)⟩
          have hcell := hown.cellAt (j := k) (by omega)
          have hfz := hown.frozenAt (j := k)
          rw [hz] at hcell
          have n1 : ¬ b = q := fun e => by rw [← e] at hgq; exact absurd (tag_eq hgq HL2.out.cells) (by decide)
          have n2 : ¬ gl = q := fun e => by rw [← e] at hgq; exact absurd (tag_eq hgq hcurl) (by decide)
          have n3 : ¬ q = b := fun e => n1 e.symm
          have n4 : ¬ q = gl := fun e => n2 e.symm
          clear hown hmk hz hgq hcurl
          go_wp2
          go_region_held_law (fun W => W.cell? ⟨b, 2, none⟩ = some (.slice (some ⟨gl, 0, none⟩) items.length cl) ∧ W.cell? ⟨gl, i, none⟩ = some (.slice (some ⟨q, 0, none⟩) bs.length cv)) (go_keep) (fail)
          go_wp2
          rw [HM.out]
          obtain ⟨s1, _⟩ := World.ownsRow.stored (h := HOWN.out) k (.int .u8 ((markOf d i).toNat : Int))
          rw [fill_next bs (markOf d i) k hkl] at s1
          exact ⟨⟨k + 1, by omega, by go_num, s1.drew, (HMK.out.trans Marked.set).drew⟩, by simp [intOf]; omega⟩
        · obtain rfl : k = bs.length := by omega
          have HROWM : Hid (wr.ownsRow base 5 1 v bs.length ((List.replicate bs.length (markOf d i)).map encB)) := by show wr.ownsRow _ _ _ _ _ _; simpa using hown
          have HBE2 : Hid (Below base w wr) := HBE.out.trans (hmk.below base HBS.out fun k hk => (own_type HROW.out k hk).2.1)
          have HBS2 : Hid (base ≤ wr.heap.size) := Nat.le_trans HBS.out hmk.size
          obtain ⟨av, cv, rfl, _⟩ := bytes_own HROWM.out
          clear hown hmk hcurl
          go_wp2
          exact ⟨⟨i + 1, by omega, by go_num, HL2.out, HR.out.next HAL.out HV.out HMK.out HROWM.out, HBE2.out, HBS2.out⟩, by simp [intOf]; omega⟩
    · obtain rfl : i = items.length := by omega
      have HRM : Hid (∀ (j : Nat) v bs, items[j]? = some (v, bs) → wr.ownsRow base 5 1 v bs.length (List.replicate bs.length (encB (markOf d j)))) := fun j v bs hj => by
        have := hR j v bs hj
        rw [if_pos (List.getElem?_eq_some_iff.1 hj).1] at this
        simpa using this
      obtain ⟨w3, rfl⟩ : ∃ w3, w3 = wr := ⟨_, rfl⟩
      obtain ⟨i7, hi7, hz70, hz71, hz72⟩ := infoBytes'
      obtain ⟨i8, hi8, hz80, hz81, hz82⟩ := info5'
      have HS : Hid (L4 d w w3.heap.size base b l0 l1 (.slice al items.length cl) vw items 0 (.slice none 0 0) [] w3) :=
        ⟨World.ownsRow_nil _ _ _ _, (fun k hk => by cases hk), HL.out, HRM.out, (fun j v bs hj => by omega), Nat.le_refl _, HBE.out, (fun k hk => (own_type HL.out.rowL k hk).1), (fun j v bs k hj hk => (own_type (HRM.out j v bs hj) k hk).1), HBS.out⟩
      clear hL hR hbe hbs HR
      go_wp2
      clear p0 p1 hlt hi HL HRM HBE HBS
      go_loopw [8, 7] (fun s t wr => ∃ (i : Nat) (lv : Value) (longs : List Value), i ≤ items.length ∧ s = .int .i64 i ∧ lv = t ∧ L4 d w w3.heap.size base b l0 l1 (.slice al items.length cl) vw items i lv longs wr) (fun s _ _ => items.length - (intOf s).toNat)
      case atStart => exact ⟨0, _, [], by omega, rfl, rfl, HS.out⟩
      case round =>
        clear HS
        obtain ⟨i, lv, longs, hi, rfl, rfl, hL⟩ := hrel
        have HL0 : Hid (L4 d w w3.heap.size base b l0 l1 (.slice al items.length cl) vw items i lv longs wr) := hL
        obtain ⟨p0, p1⟩ := hL.lay.book
        by_cases hlt : i < items.length
        · have hiz : (i : Int) < (items.length : Int) := by omega
          obtain ⟨⟨v, bs⟩, hv⟩ : ∃ x, items[i]? = some x := ⟨_, List.getElem?_eq_getElem hlt⟩
          have HV : Hid (items[i]? = some (v, bs)) := hv
          obtain ⟨gl, cl', e1, q1, _⟩ := hL.lay.at i v bs hv
          cases e1
          have hLB : bs.length ≤ 140737488351240 := HBL.out i v bs hv
          obtain ⟨e, m1, m2, m5, m7⟩ := mark_facts d i
          have HM : Hid (1 + (e : Int) % 200 = ((markOf d i).toNat : Int)) := m7
          have m5z : (e : Int) ≤ (i : Int) := by omega
          obtain ⟨wi, rfl⟩ : ∃ wi, wi = wr := ⟨_, rfl⟩
          clear hL hv m7
          go_wp2_with (at_make; refine wpList_make_full _ rfl _ _ 23 rfl wi.heap.size 5 i8 (.int .u8 0) 1 Try.underlying23 hi8 hz80 hz81 _ _ _ _ 70 rfl rfl (by omega) (by omega) (by rw [hz82]; omega) (by unfold maxLen; omega) (Nat.le_refl _) ?_
                       intro w0 hown0 hg0
                       rw [madeBytes] at hown0
                       have HR0 : Hid (BRow w0 wi.heap.size (part70 (markOf d i) 0)) := ⟨by have := own_full hown0; rw [this]; rfl⟩
                       have HB0 : Hid (Below wi.heap.size wi w0) := (Below.refl _ _).grown hg0 (Nat.le_refl _) (fun k h => by cases h)
                       clear hown0 hg0)
          rw [HM.out]
          clear p0 p1 q1
          go_loopw [12] (fun s wr => ∃ k : Nat, k ≤ 70 ∧ s = .int .i64 k ∧ BRow wr wi.heap.size (part70 (markOf d i) k) ∧ Below wi.heap.size wi wr) (fun s _ => 70 - (intOf s).toNat)
          case atStart => exact ⟨0, by omega, rfl, HR0.out, HB0.out⟩
          case round =>
            obtain ⟨k, hk, rfl, hrow, hbe⟩ := hrel
            have HRW : Hid (BRow wr wi.heap.size (part70 (markOf d i) k)) := hrow
            have HBE : Hid (Below wi.heap.size wi wr) := hbe
            by_cases hk70 : k < 70
            · have hkz : (k : Int) < 70 := by omega
              have hcell := hrow.cell k 0 (part70_at _ k hk70)
              have hfz := hrow.frozen k
              clear hrow hbe
              go_wp2
              have hset := HRW.out.set k (markOf d i)
              rw [part70_next _ _ hk70] at hset
              exact ⟨⟨k + 1, by omega, by go_num, hset, HBE.out.setCell (Nat.le_refl _) _⟩, by simp [intOf]; omega⟩
            · have hk2z : ¬ ((k : Int) < 70) := by omega
              have HMANY : Hid (BRow wr wi.heap.size (List.replicate 70 (markOf d i))) := by
                have e : k = 70 := by omega
                have := HRW.out
                rw [e, part70_all] at this
                exact this
              have HL : Hid (L4 d w w3.heap.size base b l0 l1 (.slice (some ⟨gl, 0, none⟩) items.length cl) vw items i lv longs wr) := HL0.out.here hbe
              have HROW : Hid (wr.ownsRow base 5 1 v bs.length (List.replicate bs.length (encB (markOf d i)))) := HL.out.marks i v bs HV.out
              have HBS : Hid (base ≤ wr.heap.size) := Nat.le_trans HL.out.hb HL.out.size
              have HVB : Hid (v.ownBlock ≠ some wi.heap.size) := fun e => by
                have h1 := HL0.out.oldI i v bs _ HV.out e
                have h2 := HL0.out.size
                omega
              obtain ⟨wf, rfl⟩ : ∃ wf, wf = wr := ⟨_, rfl⟩
              clear hrow hbe
              go_wp2
              go_loopw [13, 10] (fun s t wr => ∃ (k : Nat) (x : Value), k ≤ 20 ∧ s = .int .i64 k ∧ x = t ∧ wr.ownsRow base 5 1 x (bs.length + k) (List.replicate (bs.length + k) (encB (markOf d i))) ∧ Marked v.ownBlock (markOf d i) wf wr ∧ (x.ownBlock = v.ownBlock ∨ ∃ g, x.ownBlock = some g ∧ wf.heap.size ≤ g)) (fun s _ _ => 20 - (intOf s).toNat)
              case atStart => exact ⟨0, _, by omega, rfl, rfl, HROW.out, Marked.refl _ _ _, .inl rfl⟩
              case round =>
                obtain ⟨k2, x, hk2, rfl, rfl, hx, hmk, hxb⟩ := hrel
                have HX : Hid (wr.ownsRow base 5 1 x (bs.length + k2) (List.replicate (bs.length + k2) (encB (markOf d i)))) := hx
                have HMK : Hid (Marked v.ownBlock (markOf d i) wf wr) := hmk
                have HXB : Hid (x.ownBlock = v.ownBlock ∨ ∃ g, x.ownBlock = some g ∧ wf.heap.size ≤ g) := hxb
                have HBS2 : Hid (base ≤ wr.heap.size) := Nat.le_trans HBS.out hmk.size
                clear hx hmk hxb
                by_cases hk20 : k2 < 20
                · have hkz : (k2 : Int) < 20 := by omega
                  go_wp2_with (first
                    | (at_builtin; refine wpList_append_marks rfl _ _ rfl base (markOf d i) 1 (by decide) x (bs.length + k2) rfl (own_same HX.out fun b _ hl => (below_new wr _).block b hl) ⟨wr.heap.size, 0, none⟩ 1 rfl (one_src wr _) (by omega) (Nat.le_trans HBS2.out (below_new wr _).size) ?_
                       intro x2 w4 hx2 hm2 hb2
                       have HX2 : Hid (w4.ownsRow base 5 1 x2 (bs.length + k2 + 1) (List.replicate (bs.length + k2 + 1) (encB (markOf d i)))) := hx2
                       have HM2 : Hid (Marked x.ownBlock (markOf d i) wr w4) := (Marked.of_below (below_new wr _)).trans hm2
                       have HB2 : Hid (x2.ownBlock = x.ownBlock ∨ ∃ g, x2.ownBlock = some g ∧ wr.heap.size ≤ g) := hb2.imp id (fun ⟨g, h1, h2⟩ => ⟨g, h1, Nat.le_trans (below_new wr _).size h2⟩)
                       clear hx2 hm2 hb2))
                  refine ⟨⟨k2 + 1, x2, by omega, by go_num, rfl, HX2.out, HMK.out.step HM2.out HXB.out, ?_⟩, by simp [intOf]; omega⟩
                  rcases HB2.out with e | ⟨g, e, hg⟩
                  · rw [e]; exact HXB.out
                  · exact .inr ⟨g, e, Nat.le_trans HMK.out.size hg⟩
                · have hk2z : ¬ ((k2 : Int) < 20) := by omega
                  have HX20 : Hid (wr.ownsRow base 5 1 x (bs.length + 20) (List.replicate (bs.length + 20) (encB (markOf d i)))) := by
                    have e : k2 = 20 := by omega
                    have := HX.out
                    rw [e] at this
                    exact this
                  have HLg : Hid (Lay wr base b l0 l1 (.slice (some ⟨gl, 0, none⟩) items.length cl) vw items) := HL.out.lay.marked HMK.out HROW.out
                  obtain ⟨p0, p1⟩ := HLg.out.book
                  obtain ⟨gl', cl', e1, q1, _⟩ := HLg.out.at i v bs HV.out
                  cases e1
                  have HROWg : Hid (wr.ownsRow base 5 1 v bs.length (List.replicate bs.length (encB (markOf d i)))) := HMK.out.row HROW.out
                  have HSRC : Hid (∀ j, j < 70 → wr.cell? ((⟨wi.heap.size, 0, none⟩ : Addr).add j) = some (encB (markOf d i))) := fun j hj => by
                    have h1 : BRow wr wi.heap.size (List.replicate 70 (markOf d i)) := HMANY.out.same (HMK.out.other _ HMANY.out.lt HVB.out)
                    rw [add_at, Nat.zero_add]
                    exact h1.cell j (markOf d i) (by rw [List.getElem?_replicate, if_pos hj])
                  obtain ⟨ax, cx, rfl⟩ : ∃ ax cx, x = .slice ax (bs.length + 20) cx := by
                    rcases HX20.out.2 with ⟨_, e⟩ | ⟨g, cap, cur, e, _⟩
                    · omega
                    · exact ⟨_, _, e⟩
                  have HLV : Hid (wr.ownsRow base 23 1 lv (2 * i) longs) := by
                    have L := HL.out
                    refine HMK.out.keep L.rowG fun k hk e => ?_
                    have := L.fresh k hk
                    have := L.oldI i v bs k HV.out e
                    omega
                  obtain ⟨wg, rfl⟩ : ∃ wg, wg = wr := ⟨_, rfl⟩
                  go_wp2_with (first
                    | (at_builtin; refine wpList_append_marks rfl _ _ rfl base (markOf d i) 70 (by decide) v bs.length rfl HROWg.out ⟨wi.heap.size, 0, none⟩ 70 rfl HSRC.out (by omega) HBS2.out ?_
                       intro y wh hy hmy hyb
                       obtain ⟨ay, cy, rfl⟩ : ∃ ay cy, y = .slice ay (bs.length + 70) cy := by
                         rcases hy.2 with ⟨_, e⟩ | ⟨g, cap, cur, e, _⟩
                         · omega
                         · exact ⟨_, _, e⟩
                       have HY : Hid (wh.ownsRow base 5 1 (.slice ay (bs.length + 70) cy) (bs.length + 70) (List.replicate (bs.length + 70) (encB (markOf d i)))) := hy
                       have HMY : Hid (Marked v.ownBlock (markOf d i) wg wh) := hmy
                       have HYB : Hid ((Value.slice ay (bs.length + 70) cy).ownBlock = v.ownBlock ∨ ∃ g, (Value.slice ay (bs.length + 70) cy).ownBlock = some g ∧ wg.heap.size ≤ g) := hyb
                       have HBS3 : Hid (base ≤ wh.heap.size) := Nat.le_trans HBS2.out hmy.size
                       have HLVA : Hid (∀ o, (wh.alloc o).ownsRow base 23 1 lv (2 * i) longs) := fun o => own_same (HMY.out.keep HLV.out fun k hk e => by
                         have h1 := HL.out.fresh k hk
                         have h2 := HL.out.oldI i v bs k HV.out e
                         omega) fun k _ hk => Below.heap_alloc _ _ _ hk
                       clear hy hmy hyb)
                    | (at_builtin; refine wpList_append_lies _ rfl _ _ 26 rfl base 23 i7 (.slice none 0 0) 1 24 Try.underlying26 hi7 hz70 hz71 hz72 rfl (by decide) lv (2 * i) longs rfl (HLVA.out _) ⟨wh.heap.size, 0, none⟩ 2 2 [.slice ax (bs.length + 20) cx, .slice ay (bs.length + 70) cy] rfl rfl (fun j u hj => by rw [add_at, row_cell (heap_alloc_last wh _), Nat.zero_add]; simpa using hj) (fun u hu => by simp at hu; rcases hu with rfl | rfl <;> rfl) (by decide) (by unfold maxLen; omega) (by omega) (by have := HBS3.out; simp; omega) _ rfl ?_
                       intro gL cL wL hoL hgL hatL hltL
                       have HN : Hid (L4 d w w3.heap.size base b l0 l1 (.slice (some ⟨gl, 0, none⟩) items.length cl) vw items (i + 1) (.slice (some ⟨gL, 0, none⟩) (2 * i + 2) cL) (longs ++ [.slice ax (bs.length + 20) cx, .slice ay (bs.length + 70) cy]) wL) := HL.out.next HAL.out HV.out HMK.out HX20.out HXB.out HMY.out HY.out HYB.out hoL hgL hatL
                       clear hoL hgL hatL hltL))
                  exact ⟨⟨i + 1, _, _, by omega, by go_num, rfl, HN.out⟩, by simp [intOf]; omega⟩
        · obtain rfl : i = items.length := by omega
          obtain ⟨w5, rfl⟩ : ∃ w5, w5 = wr := ⟨_, rfl⟩
          clear hL
          go_wp2
          clear p0 p1 hlt hi
          go_loopw [14] (fun s wr => ∃ i : Nat, i ≤ items.length ∧ s = .int .i64 i ∧ L4 d w w3.heap.size base b l0 l1 (.slice al items.length cl) vw items items.length lv longs wr) (fun s _ => items.length - (intOf s).toNat)
          case atStart => exact ⟨0, by omega, rfl, HL0.out⟩
          case round =>
            clear HL0
            obtain ⟨i, hi, rfl, hL⟩ := hrel
            have HL : Hid (L4 d w w3.heap.size base b l0 l1 (.slice al items.length cl) vw items items.length lv longs wr) := hL
            obtain ⟨p0, p1⟩ := hL.lay.book
            by_cases hlt : i < items.length
            · have hiz : (i : Int) < (items.length : Int) := by omega
              obtain ⟨⟨v, bs⟩, hv⟩ : ∃ x, items[i]? = some x := ⟨_, List.getElem?_eq_getElem hlt⟩
              obtain ⟨gl, cl', e1, q1, _⟩ := hL.lay.at i v bs hv
              cases e1
              have hLB : bs.length ≤ 140737488351240 := HBL.out i v bs hv
              obtain ⟨e, m1, m2, m5, m7⟩ := mark_facts d i
              have HM : Hid (1 + (e : Int) % 200 = ((markOf d i).toNat : Int)) := m7
              have m5z : (e : Int) ≤ (i : Int) := by omega
              obtain ⟨g, h, e1, e2, r1, r2, _, _⟩ := hL.long i v bs hlt hv
              obtain ⟨av, cv, rfl, y0⟩ := full_slice (hL.marks i v bs hv)
              obtain ⟨ag, cg, rfl, y1⟩ := full_slice r1
              obtain ⟨ah, ch, rfl, y2⟩ := full_slice r2
              obtain ⟨gv, cvl, rfl, q2⟩ := rowB_at hL.rowG _ _ e1
              obtain ⟨gv', cvl', e3, q3⟩ := rowB_at hL.rowG _ _ e2
              cases e3
              have Y0 : Hid (BytesAt wr.heap.size wr av (List.replicate bs.length (markOf d i))) := y0
              have Y1 : Hid (BytesAt wr.heap.size wr ag (List.replicate (bs.length + 20) (markOf d i))) := y1
              have Y2 : Hid (BytesAt wr.heap.size wr ah (List.replicate (bs.length + 70) (markOf d i))) := y2
              have j1 : 2 * (i : Int) < 2 * (items.length : Int) := by omega
              have j2 : 2 * (i : Int) + 1 < 2 * (items.length : Int) := by omega
              clear hL hv e1 e2 r1 r2 y0 y1 y2 m7
              go_wp2_with fail
              rw [HM.out]
              refine (full_any _ _ _ _ (markOf d i) Y0.out (by omega)).mono ?_
              rintro _ wx ⟨rfl, hwx⟩
              rw [hwx]
              clear hwx
              go_wp2_with fail
              refine (full_any _ _ _ _ (markOf d i) Y1.out (by omega)).mono ?_
              rintro _ wx ⟨rfl, hwx⟩
              rw [hwx]
              clear hwx
              go_wp2_with fail
              refine (full_any _ _ _ _ (markOf d i) Y2.out (by omega)).mono ?_
              rintro _ wx ⟨rfl, hwx⟩
              rw [hwx]
              clear hwx
              go_wp2
              exact ⟨⟨i + 1, by omega, by go_num, HL.out⟩, by simp [intOf]; omega⟩
            · clear hL
              go_wp2
              go_ret
              exact ⟨rfl, HL.out.below, Nat.le_trans HL.out.hb HL.out.size, HL.out.lay, HL.out.marks⟩
end Go.Proofs.Ytphohkchffcjeaa
