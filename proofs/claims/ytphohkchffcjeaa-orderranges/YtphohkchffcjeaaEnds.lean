/- The law's Book: ends. -/
import Derived.Test.YtphohkchffcjeaaRound
namespace Go.Proofs.Ytphohkchffcjeaa
open Go.RowKit

/-- The lists, full of their marks. -/
def full2 (d : Nat) (items : List (Value × Key)) : List (Value × Key) := items.mapIdx fun j x => (x.1, List.replicate x.2.length (markOf d j))
theorem full2_at (d : Nat) (items : List (Value × Key)) (j : Nat) : (full2 d items)[j]? = (items[j]?).map fun x => (x.1, List.replicate x.2.length (markOf d j)) := by simp [full2]
theorem full2_length (d : Nat) (items : List (Value × Key)) : (full2 d items).length = items.length := by simp [full2]
theorem full2_fst (d : Nat) (items : List (Value × Key)) : (full2 d items).map (·.1) = items.map (·.1) := by
  apply List.ext_getElem?
  intro j
  rw [List.getElem?_map, List.getElem?_map, full2_at]
  cases items[j]? <;> rfl
theorem full2_some {d : Nat} {items : List (Value × Key)} {j : Nat} {v : Value} {bs : Key} (h : (full2 d items)[j]? = some (v, bs)) : ∃ bs', items[j]? = some (v, bs') ∧ bs = List.replicate bs'.length (markOf d j) := by
  rw [full2_at] at h
  cases e : items[j]? with
  | none => rw [e] at h; cases h
  | some x =>
    rw [e] at h
    obtain ⟨v', bs'⟩ := x
    cases h
    exact ⟨bs', rfl, rfl⟩
theorem Lay.full2 {w : World} {base b : Nat} {l0 l1 vl vw : Value} {items : List (Value × Key)} (h : Lay w base b l0 l1 vl vw items) (d : Nat) : Lay w base b l0 l1 vl vw (full2 d items) :=
  ⟨h.cells, h.low, by rw [full2_length, full2_fst]; exact h.rowL⟩

set_option maxHeartbeats 3200000 in
set_option maxRecDepth 100000 in
theorem bookEnds_any {w : World} {base b : Nat} {l0 l1 vl vw : Value} {items : List (Value × Key)} (H : Book w base b l0 l1 vl vw items) (hbase : base ≤ w.heap.size) (hil : items.length ≤ 1000000) (hbl : ∀ (i : Nat) v bs, items[i]? = some (v, bs) → bs.length ≤ 140737488351240) :
    Calls Try.prog 35 #[.pointer (some ⟨b, 2, none⟩)] w fun e w' => e = .returned (.bool true) ∧ Below base w w' ∧ base ≤ w'.heap.size ∧ w'.heap[b]? = w.heap[b]? := by
  have HH : Hid (Book w base b l0 l1 vl vw items) := H
  have HBL : Hid _ := hbl
  have HAL : Hid (Alone items) := H.alone
  obtain ⟨al, cl, rfl⟩ := H.lay.len
  obtain ⟨aw, cw, rfl⟩ : ∃ aw cw, vw = .slice aw items.length cw := by
    rcases H.rowW.2 with ⟨e, e'⟩ | ⟨g, cap, cur, e, _⟩
    · exact ⟨none, 0, by rw [e, e']⟩
    · exact ⟨_, _, e⟩
  clear H hbl
  go_enter Try.func35, Try.ntmps35
  go_wp2
  go_loopw [3] (fun s wr => ∃ i : Nat, i ≤ items.length ∧ s = .int .i64 i ∧ Book wr base b l0 l1 (.slice al items.length cl) (.slice aw items.length cw) items ∧ Below base w wr ∧ base ≤ wr.heap.size) (fun s _ => items.length - (intOf s).toNat)
  case atStart => exact ⟨0, by omega, rfl, HH.out, Below.refl _ _, hbase⟩
  case round =>
    obtain ⟨i, hi, rfl, hB, hbe, hbs⟩ := hrel
    have HB : Hid (Book wr base b l0 l1 (.slice al items.length cl) (.slice aw items.length cw) items) := hB
    have HBE : Hid (Below base w wr) := hbe
    have HBS : Hid (base ≤ wr.heap.size) := hbs
    obtain ⟨p0, p1⟩ := hB.lay.book
    by_cases hlt : i < items.length
    · have hiz : (i : Int) < (items.length : Int) := by omega
      obtain ⟨⟨v, bs⟩, hv⟩ : ∃ x, items[i]? = some x := ⟨_, List.getElem?_eq_getElem hlt⟩
      obtain ⟨gl, cl', e1, q1, _⟩ := hB.lay.at i v bs hv
      cases e1
      obtain ⟨gw, rfl, q2⟩ : ∃ gw, aw = some ⟨gw, 0, none⟩ ∧ wr.cell? ⟨gw, i, none⟩ = some (.string (strB bs)) := by
        rcases hB.rowW.2 with ⟨_, e⟩ | ⟨g, cap, cur, e, _, hg, hc, _, hs, ht⟩
        · omega
        · cases e
          refine ⟨g, rfl, ?_⟩
          rw [row_cell hg]
          have := congrArg (fun l => l[i]?) ht
          simp only [List.getElem?_take, List.getElem?_map, hv] at this
          rw [if_pos (by omega), Array.getElem?_toList] at this
          exact this
      obtain ⟨a1, c1, rfl, y1, l1', _⟩ := bytes_own (hB.item i v bs hv)
      have cv1 : ∀ k, (convert 23 9 (.slice a1 bs.length c1)).run Try.prog (wr.drewN k) = .ok (.string (strB bs)) (wr.drewN k) := fun k => conv_any _ _ (y1.here (below_draws (Below.refl _ _) k)) rfl
      clear hB hbe hbs y1 hv l1'
      go_wp2
      go_quiet (fail)
      go_wp2
      exact ⟨⟨i + 1, by omega, by go_num, HB.out.here (below_draws (Below.refl _ _) nq), below_draws HBE.out nq, HBS.out⟩, by simp [intOf]; omega⟩
    · obtain rfl : i = items.length := by omega
      have HR1 := round_any 1 (.inl rfl) wr base b l0 l1 _ _ items HB.out.lay (fun j v bs hj => HB.out.item j v bs hj) HAL.out HBS.out hil HBL.out
      clear hB hbe hbs
      go_wp2_with fail
      refine HR1.mono ?_
      rintro e w1 ⟨rfl, hb1, hs1, hl1, hm1⟩
      have HB1 : Hid (Below base w w1) := HBE.out.trans hb1
      have HR2 := round_any 200 (.inr rfl) w1 base b l0 l1 _ _ (full2 1 items) (hl1.full2 1) (fun j v bs hj => by
        obtain ⟨bs', h1, h2⟩ := full2_some hj
        have := hm1 j v bs' h1
        subst h2
        rw [List.length_replicate, List.map_replicate]
        exact this) (fun i j v bs v' bs' k h1 h2 h3 h4 => by
        obtain ⟨x, g1, _⟩ := full2_some h1
        obtain ⟨y, g2, _⟩ := full2_some h2
        exact HAL.out i j v x v' y k g1 g2 h3 h4) hs1 (by rw [full2_length]; exact hil) (fun i v bs h => by
        obtain ⟨x, g1, g2⟩ := full2_some h
        rw [g2, List.length_replicate]
        exact HBL.out i v x g1)
      clear HR1 hb1 hs1 hl1 hm1 p0 p1
      go_wp2_with fail
      refine HR2.mono ?_
      rintro e w2 ⟨rfl, hb2, hs2, hl2, hm2⟩
      have HB2 : Hid (Below base w w2) := HB1.out.trans hb2
      have HS2 : Hid (base ≤ w2.heap.size) := hs2
      have HC2 : Hid (w2.heap[b]? = w.heap[b]?) := by rw [Hid, hl2.cells, HH.out.cells]
      clear HR2 hb2 hs2 hl2 hm2
      go_wp2
      go_ret
      exact ⟨rfl, HB2.out, HS2.out, HC2.out⟩
end Go.Proofs.Ytphohkchffcjeaa
