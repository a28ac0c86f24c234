/- sameRanges; Next; the chapter's examples: the law's own function 'awake' answers true. -/
import Derived.Test.YtphohkchffcjeaaSame
import Derived.Test.YtphohkchffcjeaaCover
namespace Go.Proofs.Ytphohkchffcjeaa
open Go.RowKit

theorem ListAt.cells {w : World} {v : Value} {L : List It} (h : ListAt w.heap.size w v L) (i : Nat) (x : It) (hx : L[i]? = some x) : ∃ g off c, v = .slice (some ⟨g, off, none⟩) L.length c ∧ w.cell? ⟨g, off + i * 3, none⟩ = some x.v1 ∧ w.cell? ⟨g, off + i * 3 + 1, none⟩ = some x.v2 ∧ w.cell? ⟨g, off + i * 3 + 2, none⟩ = some (.bool x.r.all) := by
  obtain ⟨a, c, rfl, _, _, h4⟩ := h.is
  obtain ⟨h0, h1, h2⟩ := flat_get L i x hx
  obtain ⟨g, off, rfl, _, e0⟩ := h4 _ _ h0
  obtain ⟨g1, off1, e, _, e1⟩ := h4 _ _ h1
  cases e
  obtain ⟨g2, off2, e, _, e2⟩ := h4 _ _ h2
  cases e
  exact ⟨g, off, c, rfl, e0, by rw [Nat.add_assoc]; exact e1, by rw [Nat.add_assoc]; exact e2⟩
theorem ListAt.slice {B : Nat} {w : World} {v : Value} {L : List It} (h : ListAt B w v L) : ∃ a c, v = .slice a L.length c := by
  obtain ⟨a, c, e, _⟩ := h.is; exact ⟨a, c, e⟩

set_option maxHeartbeats 1600000 in
set_option maxRecDepth 100000 in
theorem sameRanges_any {w : World} {v u : Value} {L M : List It} (h : ListAt w.heap.size w v L) (hu : ListAt w.heap.size w u M) :
    Calls Try.prog 29 #[v, u] w fun e w' => e = .returned (.bool (decide (L.map (·.r) = M.map (·.r)))) ∧ Below w.heap.size w w' := by
  have HL : Hid (ListAt w.heap.size w v L) := h
  have HM : Hid (ListAt w.heap.size w u M) := hu
  have hs1 := h.short
  have hs2 := hu.short
  obtain ⟨a1, c1, rfl⟩ := h.slice
  obtain ⟨a2, c2, rfl⟩ := hu.slice
  clear h hu
  by_cases hlen : L.length = M.length
  · have hlz : (L.length : Int) = (M.length : Int) := by omega
    have HLEN : Hid (L.length = M.length) := hlen
    have hlb : ((L.length : Int) != (M.length : Int)) = false := by simp [hlz]
    clear hlz hlen
    go_enter Try.func29, Try.ntmps29
    go_wp2
    go_loopw [5, 6] (fun s5 _ wr => ∃ k : Nat, s5 = .int .i64 k ∧ k ≤ L.length ∧ (L.take k).map (·.r) = (M.take k).map (·.r) ∧ Below w.heap.size w wr) (fun s5 _ _ => L.length - (intOf s5).toNat)
    case atStart => exact ⟨0, rfl, Nat.zero_le _, by simp, Below.refl _ _⟩
    case round =>
      obtain ⟨k, rfl, hk, heq, hbe⟩ := hrel
      have HEQ : Hid ((L.take k).map (·.r) = (M.take k).map (·.r)) := heq
      have HBE : Hid (Below w.heap.size w wr) := hbe
      have hl := HLEN.out
      by_cases hkl : k < L.length
      · have hkz : (k : Int) < (L.length : Int) := by omega
        have hkz2 : (k : Int) < (M.length : Int) := by omega
        obtain ⟨x, hx⟩ : ∃ x, L[k]? = some x := ⟨_, List.getElem?_eq_getElem hkl⟩
        obtain ⟨y, hy⟩ : ∃ y, M[k]? = some y := ⟨_, List.getElem?_eq_getElem (by omega)⟩
        obtain ⟨g, off, cc, e1, k0, k1, k2⟩ := (HL.out.here hbe).cells k x hx
        cases e1
        obtain ⟨g', off', cc', e1, m0, m1, m2⟩ := (HM.out.here hbe).cells k y hy
        cases e1
        have hxo : x.Ok wr.heap.size wr := (HL.out.here hbe).ok x (List.mem_of_getElem? hx)
        have hyo : y.Ok wr.heap.size wr := (HM.out.here hbe).ok y (List.mem_of_getElem? hy)
        have HS := sameRange_any (w := wr.drew) ((hxo.range.at (Nat.le_refl _)).here ((Below.refl _ wr).drew)) ((hyo.range.at (Nat.le_refl _)).here ((Below.refl _ wr).drew))
        have HX : Hid (L[k]? = some x) := hx
        have HY : Hid (M[k]? = some y) := hy
        obtain ⟨x1, x2, r⟩ := x
        obtain ⟨y1, y2, o⟩ := y
        simp only [It.val] at HS k0 k1 k2 m0 m1 m2
        clear hl hx hy hxo hyo hbe heq
        go_wp2_with fail
        by_cases hro : r = o
        · have hd : decide (r = o) = true := by simp [hro]
          rw [hd] at HS
          have HN : Hid ((L.take (k + 1)).map (·.r) = (M.take (k + 1)).map (·.r)) := by
            rw [Hid, List.take_add_one, List.take_add_one, HX.out, HY.out]; simp [HEQ.out, hro]
          clear hro hd
          go_region_held_law (fun W' => W'.cell? ⟨g, off + k * 3, none⟩ = some x1 ∧ W'.cell? ⟨g, off + k * 3 + 1, none⟩ = some x2 ∧ W'.cell? ⟨g, off + k * 3 + 2, none⟩ = some (.bool r.all) ∧ W'.cell? ⟨g', off' + k * 3, none⟩ = some y1 ∧ W'.cell? ⟨g', off' + k * 3 + 1, none⟩ = some y2 ∧ W'.cell? ⟨g', off' + k * 3 + 2, none⟩ = some (.bool o.all)) (first | go_keep | (refine ⟨?_, ?_, ?_, ?_, ?_, ?_⟩ <;> assumption))
            (first
              | (go_at_call 28; refine HS.mono ?_; rintro e w2 ⟨rfl, hb2⟩
                 have HB2 : Hid (Below wr.heap.size wr w2) := ((Below.refl _ wr).drew).trans hb2
                 clear hb2
                 obtain ⟨_, _, _, e1, k0', k1', k2'⟩ := (HL.out.here (HBE.out.trans (HB2.out.mono HBE.out.size))).cells k _ HX.out
                 cases e1
                 obtain ⟨_, _, _, e1, m0', m1', m2'⟩ := (HM.out.here (HBE.out.trans (HB2.out.mono HBE.out.size))).cells k _ HY.out
                 cases e1))
          go_wp2
          exact ⟨⟨k + 1, by go_num, by omega, HN.out, HBE.out.trans (HB2.out.mono HBE.out.size)⟩, by simp [intOf]; omega⟩
        · have hd : decide (r = o) = false := by simp [hro]
          rw [hd] at HS
          have HN : Hid (decide (L.map (·.r) = M.map (·.r)) = false) := by
            rw [Hid, decide_eq_false_iff_not]
            intro e
            have := congrArg (fun l => l[k]?) e
            simp [HX.out, HY.out] at this
            exact hro this
          clear hd
          go_region_held_law (fun W' => W'.cell? ⟨g, off + k * 3, none⟩ = some x1 ∧ W'.cell? ⟨g, off + k * 3 + 1, none⟩ = some x2 ∧ W'.cell? ⟨g, off + k * 3 + 2, none⟩ = some (.bool r.all) ∧ W'.cell? ⟨g', off' + k * 3, none⟩ = some y1 ∧ W'.cell? ⟨g', off' + k * 3 + 1, none⟩ = some y2 ∧ W'.cell? ⟨g', off' + k * 3 + 2, none⟩ = some (.bool o.all)) (first | go_keep | (refine ⟨?_, ?_, ?_, ?_, ?_, ?_⟩ <;> assumption))
            (first
              | (go_at_call 28; refine HS.mono ?_; rintro e w2 ⟨rfl, hb2⟩
                 have HB2 : Hid (Below wr.heap.size wr w2) := ((Below.refl _ wr).drew).trans hb2
                 clear hb2
                 obtain ⟨_, _, _, e1, k0', k1', k2'⟩ := (HL.out.here (HBE.out.trans (HB2.out.mono HBE.out.size))).cells k _ HX.out
                 cases e1
                 obtain ⟨_, _, _, e1, m0', m1', m2'⟩ := (HM.out.here (HBE.out.trans (HB2.out.mono HBE.out.size))).cells k _ HY.out
                 cases e1))
          go_wp2
          go_ret
          exact ⟨ret_bool (by rw [HN.out]), HBE.out.trans (HB2.out.mono HBE.out.size)⟩
      · have hkz : ¬ (k : Int) < (L.length : Int) := by omega
        clear hbe heq hl
        go_wp2
        go_ret
        have h1 := HEQ.out
        have hl := HLEN.out
        rw [List.take_of_length_le (by omega), List.take_of_length_le (by omega)] at h1
        exact ⟨ret_bool (by simp [h1]), HBE.out⟩
  · have hlz : ((L.length : Int) != (M.length : Int)) = true := by simp; omega
    have HN : Hid (decide (L.map (·.r) = M.map (·.r)) = false) := by
      rw [Hid, decide_eq_false_iff_not]
      intro e
      exact hlen (by simpa using congrArg List.length e)
    clear hlen
    go_enter Try.func29, Try.ntmps29
    go_wp2
    go_ret
    exact ⟨ret_bool (by rw [HN.out]), Below.refl _ _⟩
end Go.Proofs.Ytphohkchffcjeaa
