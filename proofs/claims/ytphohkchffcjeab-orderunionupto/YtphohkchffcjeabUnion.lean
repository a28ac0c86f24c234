/- The law OrderUnion's walk. -/
import Derived.Test.YtphohkchffcjeabLawForm
import Derived.Test.YtphohkchffcjeabAlive
namespace Go.Proofs.Ytphohkchffcjeab
open Go.RowKit

namespace Rg
/-- How many of them have a key. -/
def many (c : List Rg) (k : Key) : Nat := c.countP fun r => r.has k
theorem canon_many {c : List Rg} (h : Canon c) (k : Key) : many c k ≤ 1 ∧ (many c k = 1 ↔ In c k) := by
  induction c with
  | nil => simp [many, In]
  | cons a c ih =>
    obtain ⟨h1, h2⟩ := ih h.tail
    have hm : many (a :: c) k = many c k + if a.has k then 1 else 0 := by simp [many, List.countP_cons]
    rw [hm, in_cons]
    by_cases ha : a.has k = true
    · have hn : ¬ In c k := fun hi => by
        have := h.later hi
        unfold has at ha
        simp [this.1] at ha
        have := this.2
        grind
      have h0 : many c k = 0 := by
        have : many c k ≠ 1 := fun e => hn (h2.1 e)
        omega
      simp [ha, h0]
    · simp [ha, h2]
      exact h1
theorem canon_next {c : List Rg} (h : Canon c) (i : Nat) (a b : Rg) (ha : c[i]? = some a) (hb : c[i + 1]? = some b) : a.all = false ∧ a.hi < b.lo := by
  obtain ⟨h1, rfl⟩ := List.getElem?_eq_some_iff.1 ha
  obtain ⟨h2, rfl⟩ := List.getElem?_eq_some_iff.1 hb
  exact List.pairwise_iff_getElem.1 h.sep i (i + 1) h1 h2 (by omega)
/-- A range that is cut in two. -/
theorem cut_two (r : Rg) (k : Key) (h : r.has k = true) (x : Key) : ((⟨k, r.hi, r.all⟩ : Rg).has x || (⟨r.lo, k, false⟩ : Rg).has x) = r.has x := by
  unfold has at *
  rcases r with ⟨lo, hi, all⟩
  cases all <;> simp at * <;> grind
end Rg

/-- Some of the list, the last first, some cut in two. -/
structure Turn (B : Nat) (w0 : World) (L : List It) (m : Nat) (v : Value) (T : List It) (wr : World) : Prop where
  own : wr.ownsRow w0.heap.size 24 3 v T.length (flat T)
  keys : ∀ x, Rg.In (T.map (·.r)) x ↔ Rg.In ((L.drop m).map (·.r)) x
  ok : ∀ e ∈ T, e.Ok B wr
  below : Below w0.heap.size w0 wr
  few : T.length ≤ 2 * (L.length - m)
theorem Turn.step {B : Nat} {w0 wr w' : World} {L T N : List It} {m : Nat} {v v' : Value} {x : It} (h : Turn B w0 L (m + 1) v T wr) (hx : L[m]? = some x) (hN : ∀ y, Rg.In (N.map (·.r)) y ↔ x.r.has y = true) (hl : N.length ≤ 2) (hok : ∀ e ∈ N, e.Ok B wr) (hB : B ≤ w0.heap.size)
    (own : w'.ownsRow w0.heap.size 24 3 v' (T.length + N.length) (flat T ++ flat N)) (hb : Below w0.heap.size wr w') : Turn B w0 L m v' (T ++ N) w' := by
  have hm := (List.getElem?_eq_some_iff.1 hx).1
  refine ⟨by rw [flat_append, List.length_append]; exact own, fun y => ?_, fun e he => ?_, h.below.trans hb, by have := h.few; simp; omega⟩
  · obtain ⟨_, rfl⟩ := List.getElem?_eq_some_iff.1 hx
    rw [List.map_append, Rg.in_append, h.keys, hN, List.drop_eq_getElem_cons hm, List.map_cons, Rg.in_cons, or_comm]
  · rcases List.mem_append.1 he with h' | h'
    · exact (h.ok e h').below (hb.mono hB)
    · exact (hok e h').below (hb.mono hB)
theorem own_slice {w : World} {base e s n : Nat} {v : Value} {xs : List Value} (h : w.ownsRow base e s v n xs) : ∃ a c, v = .slice a n c := by
  obtain ⟨_, h2⟩ := h
  rcases h2 with ⟨rfl, rfl⟩ | ⟨g, c, cur, rfl, _⟩
  · exact ⟨none, 0, rfl⟩
  · exact ⟨_, c, rfl⟩
/-- What is written out, one behind the other. -/
theorem lits_cells (W : World) (L : List It) (C : Array Value) (hC : C = (flat L).toArray) (j : Nat) (u : Value) (hj : (flat L)[j]? = some u) : (W.alloc (.cells C 24)).cell? ((⟨W.heap.size, 0, none⟩ : Addr).add j) = some u := by
  subst hC
  rw [add_at, Nat.zero_add, row_cell (heap_alloc_last W _)]
  simpa using hj

set_option maxHeartbeats 6400000 in
set_option maxRecDepth 100000 in
theorem union_walk {w : World} {v t : Value} {L : List It} {k : Key} (h : ListAt w.heap.size w v L) (ht : KeyAt w t k) (z : Int) (_ : (Lit.int .i64 z).wf = true) (hfew : L.length ≤ 1048576) :
    Calls Try.prog 4 #[v, t, .int .i64 z] w fun e w' => e = .returned (.bool true) ∧ Below w.heap.size w w' := by
  obtain ⟨i0, hi, hz0, hz1, hz2⟩ := info36'
  have HL : Hid (ListAt w.heap.size w v L) := h
  have HT : Hid (KeyAt w t k) := ht
  obtain ⟨a0, c0, rfl⟩ := h.slice
  obtain ⟨a1, c1, rfl, _⟩ := ht.is
  clear h ht
  go_enter Try.func4, Try.ntmps4
  go_wp2_with fail
  refine (awake_any w).mono ?_
  rintro e w1 ⟨rfl, hb1⟩
  have HB1 : Hid (Below w.heap.size w w1) := hb1
  clear hb1
  go_wp2_with fail
  refine (cover_any (HL.out.here HB1.out)).mono ?_
  rintro e w2 ⟨vl, F, rfl, hF, hnl, hFl, hb2⟩
  have HF : Hid (F.map (·.r) = Rg.cover (L.map (·.r))) := hF
  have HCAN : Hid (Rg.Canon (F.map (·.r))) := by rw [Hid, hF]; exact (Rg.cover_spec _).1
  have HB2 : Hid (Below w.heap.size w w2) := HB1.out.trans (hb2.mono HB1.out.size)
  have HLF : Hid (ListAt w2.heap.size w2 vl F) := hnl.list (by omega)
  obtain ⟨a8, c8, rfl⟩ := HLF.out.slice
  have hFf : F.length ≤ 1048576 := by omega
  clear hF hnl hb2 hFl
  go_wp2
  go_loopw [10, 9] (fun s10 s9 wr => ∃ i : Nat, s10 = .int .i64 i ∧ i ≤ F.length ∧ s9 = .int .i64 (Rg.many ((F.take i).map (·.r)) k : Int) ∧ Below w2.heap.size w2 wr) (fun s10 _ _ => F.length - (intOf s10).toNat)
  case atStart => exact ⟨0, rfl, Nat.zero_le _, rfl, Below.refl _ _⟩
  case round =>
    obtain ⟨i, rfl, hiF, rfl, hbe⟩ := hrel
    have HBE : Hid (Below w2.heap.size w2 wr) := hbe
    by_cases hlt : i < F.length
    · have hltz : (i : Int) < (F.length : Int) := by omega
      obtain ⟨x, hx⟩ : ∃ x, F[i]? = some x := ⟨_, List.getElem?_eq_getElem hlt⟩
      have HX : Hid (F[i]? = some x) := hx
      obtain ⟨g, off, cc, e1, k0, k1, k2⟩ := (HLF.out.here hbe).cells i x hx
      cases e1
      have hxo : x.Ok wr.heap.size wr := (HLF.out.here hbe).ok x (List.mem_of_getElem? hx)
      have hxf : x.r.empty = false ∧ x.r.formed = true := HCAN.out.full x.r (List.mem_map_of_mem (List.mem_of_getElem? hx))
      have HFO := lawForm_any (hxo.range.at (Nat.le_refl _))
      rw [hxf.2] at HFO
      obtain ⟨n, hn⟩ : ∃ n, n = Rg.many ((F.take i).map (·.r)) k := ⟨_, rfl⟩
      have hnF : n ≤ 1048576 := by
        rw [hn]
        have := List.countP_le_length (p := fun r : Rg => r.has k) (l := (F.take i).map (·.r))
        rw [List.length_map, List.length_take] at this
        unfold Rg.many
        omega
      have HMN : Hid (Rg.many ((F.take (i + 1)).map (·.r)) k = n + if x.r.has k then 1 else 0) := by
        rw [Hid, hn, List.take_add_one, hx]
        simp [Rg.many, List.countP_append, List.countP_cons]
      rw [← hn]
      have HXE : Hid (x.r.empty = false) := hxf.1
      have HMN0 : Hid (n = Rg.many ((F.take i).map (·.r)) k) := hn
      obtain ⟨x1, x2, r⟩ := x
      obtain ⟨p1, q1, e1⟩ := hxo.lo.form
      obtain ⟨p2, q2, e2⟩ := hxo.hi.form
      simp only at e1 e2
      subst e1 e2
      simp only [It.val] at HFO k0 k1 k2
      clear hx hxo hxf hbe hn
      go_wp2_with fail
      refine HFO.mono ?_
      rintro e w4 ⟨rfl, hb4⟩
      have HB4 : Hid (Below w2.heap.size w2 w4) := HBE.out.trans (hb4.mono HBE.out.size)
      clear HFO hb4 k0 k1 k2
      obtain ⟨_, _, _, e1, k0, k1, k2⟩ := (HLF.out.here HB4.out).cells i _ HX.out
      cases e1
      have hxo : It.Ok w4.heap.size w4 ⟨.slice p1 r.lo.length q1, .slice p2 r.hi.length q2, r⟩ := (HLF.out.here HB4.out).ok _ (List.mem_of_getElem? HX.out)
      have HEM := empty_any (hxo.range.at (Nat.le_refl _))
      rw [HXE.out] at HEM
      simp only [It.val] at HEM k0 k1 k2
      clear hxo
      go_wp2_with fail
      refine HEM.mono ?_
      rintro e w5 ⟨rfl, hb5⟩
      have HB5 : Hid (Below w2.heap.size w2 w5) := HB4.out.trans (hb5.mono HB4.out.size)
      clear HEM hb5 k0 k1 k2
      obtain ⟨_, _, _, e1, k0, k1, k2⟩ := (HLF.out.here HB5.out).cells i _ HX.out
      cases e1
      have hxo : It.Ok w5.heap.size w5 ⟨.slice p1 r.lo.length q1, .slice p2 r.hi.length q2, r⟩ := (HLF.out.here HB5.out).ok _ (List.mem_of_getElem? HX.out)
      have HXO : Hid _ := hxo
      simp only at k0 k1 k2
      clear hxo
      go_upto_region 9 with fail
      go_cut [73] (fun s73 wx => s73 = .bool false ∧ ∃ q, wx = w5.drewN q)
      case first =>
        by_cases hi0 : i = 0
        · subst hi0
          clear hltz
          go_quiet (fail)
          go_wp2_with fail
          go_meet
          exact ⟨by first | rfl | simp, nq, rfl⟩
        · obtain ⟨n0, hn0⟩ : ∃ n0 : Nat, i = n0 + 1 := ⟨i - 1, by omega⟩
          have hn1 : (i : Int) - 1 = (n0 : Int) := by omega
          have hn2 : (n0 : Int) < (F.length : Int) := by omega
          have hn3 : (0 : Int) < (i : Int) := by omega
          have hn4 : 0 < i := by omega
          have hn5 : decide (0 < i) = true := decide_eq_true hn4
          obtain ⟨y, hy⟩ : ∃ y, F[n0]? = some y := ⟨_, List.getElem?_eq_getElem (by omega)⟩
          obtain ⟨_, _, _, e1, m0, m1, m2⟩ := (HLF.out.here HB5.out).cells n0 y hy
          cases e1
          have hyo : y.Ok w5.heap.size w5 := (HLF.out.here HB5.out).ok y (List.mem_of_getElem? hy)
          have hsep := Rg.canon_next HCAN.out n0 y.r r (by rw [List.getElem?_map, hy]; rfl) (by rw [← hn0, List.getElem?_map, HX.out]; rfl)
          rw [hsep.1] at m2
          have hcm : decide (0 ≤ cmpK y.r.hi r.lo) = false := decide_eq_false (fun h => by have := cmpK_ge.1 h; have := hsep.2; grind)
          have HYK : Hid (KeyAt w5 y.v2 y.r.hi) := hyo.hi.at (Nat.le_refl _)
          have HXK : Hid (KeyAt w5 (.slice p1 r.lo.length q1) r.lo) := HXO.out.lo.at (Nat.le_refl _)
          obtain ⟨y1, y2, yr⟩ := y
          obtain ⟨p3, q3, e1⟩ := hyo.lo.form
          obtain ⟨p4, q4, e2⟩ := hyo.hi.form
          simp only at e1 e2
          subst e1 e2
          simp only at m0 m1 m2 hcm HYK
          clear hyo hsep hy hi0 hn0
          go_quiet (first
            | (go_at_call 14; exact Calls.quiet_of (compare_key (HYK.out.draws _) (HXK.out.draws _))))
          go_wp2_with fail
          go_meet
          exact ⟨by first | rfl | simp [hcm], nq, rfl⟩
      case rest =>
        obtain ⟨rfl, q, hq⟩ := hcut
        have HBQ : Hid (Below w2.heap.size w2 wc) := by rw [hq]; exact below_draws HB5.out q
        clear k0 k1 k2 hq
        obtain ⟨_, _, _, e1, k0, k1, k2⟩ := (HLF.out.here HBQ.out).cells i _ HX.out
        cases e1
        have hxo : It.Ok wc.heap.size wc ⟨.slice p1 r.lo.length q1, .slice p2 r.hi.length q2, r⟩ := (HLF.out.here HBQ.out).ok _ (List.mem_of_getElem? HX.out)
        have HBW : Hid (Below w.heap.size w wc) := HB2.out.trans (HBQ.out.mono HB2.out.size)
        have HHA := has_any (hxo.range.at (Nat.le_refl _)) (HT.out.here HBW.out)
        simp only [It.val] at HHA k0 k1 k2
        clear hxo
        go_wp2_with fail
        refine HHA.mono ?_
        rintro e w6 ⟨rfl, hb6⟩
        have HB6 : Hid (Below w2.heap.size w2 w6) := HBQ.out.trans (hb6.mono HBQ.out.size)
        clear HHA hb6 k0 k1 k2
        cases hh : r.has k with
        | true =>
          have HM : Hid (Rg.many ((F.take (i + 1)).map (·.r)) k = n + 1) := by have := HMN.out; simp only [hh] at this; exact this
          clear hh
          go_wp2
          exact ⟨⟨i + 1, by go_num, by omega, by rw [HM.out]; go_num, HB6.out⟩, by simp [intOf]; omega⟩
        | false =>
          have HM : Hid (Rg.many ((F.take (i + 1)).map (·.r)) k = n) := by have := HMN.out; simp only [hh] at this; exact this
          clear hh
          go_wp2
          exact ⟨⟨i + 1, by go_num, by omega, by rw [HM.out], HB6.out⟩, by simp [intOf]; omega⟩
    · obtain rfl : i = F.length := by omega
      obtain ⟨n, hn⟩ : ∃ n, n = Rg.many ((F.take F.length).map (·.r)) k := ⟨_, rfl⟩
      have HIN : Hid (n ≤ 1 ∧ (n = 1 ↔ Rg.In (F.map (·.r)) k)) := by
        rw [Hid, hn, List.take_length]
        exact Rg.canon_many HCAN.out k
      rw [← hn]
      obtain ⟨w3, hw3⟩ : ∃ w3, w3 = wr := ⟨_, rfl⟩
      subst hw3
      have hn1 : n ≤ 1 := HIN.out.1
      clear hn hlt hbe
      go_wp2_with fail
      go_loopw [15, 14] (fun s15 s14 wr => ∃ i : Nat, s15 = .int .i64 i ∧ i ≤ L.length ∧ s14 = .bool ((L.take i).any fun x => x.r.has k) ∧ Below w2.heap.size w2 wr) (fun s15 _ _ => L.length - (intOf s15).toNat)
      case atStart => exact ⟨0, rfl, Nat.zero_le _, rfl, HBE.out⟩
      case round =>
        obtain ⟨i, rfl, hiL, rfl, hbe⟩ := hrel
        have HB3 : Hid (Below w2.heap.size w2 wr) := hbe
        have HBW : Hid (Below w.heap.size w wr) := HB2.out.trans (hbe.mono HB2.out.size)
        by_cases hlt : i < L.length
        · have hltz : (i : Int) < (L.length : Int) := by omega
          obtain ⟨x, hx⟩ : ∃ x, L[i]? = some x := ⟨_, List.getElem?_eq_getElem hlt⟩
          obtain ⟨_, _, _, e1, k0, k1, k2⟩ := (HL.out.here HBW.out).cells i x hx
          cases e1
          have hxo : x.Ok wr.heap.size wr := (HL.out.here HBW.out).ok x (List.mem_of_getElem? hx)
          have HHA := has_any (hxo.range.at (Nat.le_refl _)) (HT.out.here HBW.out)
          have HANY : Hid (((L.take (i + 1)).any fun x => x.r.has k) = (((L.take i).any fun x => x.r.has k) || x.r.has k)) := by
            rw [Hid, List.take_add_one, hx, List.any_append]
            simp
          generalize ((L.take i).any fun x => x.r.has k) = b at HANY
          obtain ⟨x1, x2, r⟩ := x
          obtain ⟨p1, q1, e1⟩ := hxo.lo.form
          obtain ⟨p2, q2, e2⟩ := hxo.hi.form
          simp only at e1 e2 HANY
          subst e1 e2
          simp only [It.val] at HHA k0 k1 k2
          clear hx hxo hbe
          go_wp2_with fail
          refine HHA.mono ?_
          rintro e w6 ⟨rfl, hb6⟩
          have HB6 : Hid (Below w2.heap.size w2 w6) := HB3.out.trans (hb6.mono HB3.out.size)
          clear HHA hb6 k0 k1 k2
          generalize r.has k = hh at HANY
          cases b with
          | true =>
            go_wp2
            exact ⟨⟨i + 1, by go_num, by omega, by rw [HANY.out]; rfl, HB6.out⟩, by simp [intOf]; omega⟩
          | false =>
            go_wp2
            exact ⟨⟨i + 1, by go_num, by omega, by rw [HANY.out]; rfl, HB6.out⟩, by simp [intOf]; omega⟩
        · obtain rfl : i = L.length := by omega
          obtain ⟨b, hb⟩ : ∃ b, b = ((L.take L.length).any fun x => x.r.has k) := ⟨_, rfl⟩
          have HB : Hid (b = true ↔ Rg.In (L.map (·.r)) k) := by
            rw [Hid, hb, List.take_length]
            simp only [List.any_eq_true, Rg.In, List.mem_map]
            exact ⟨fun ⟨x, h1, h2⟩ => ⟨x.r, ⟨x, h1, rfl⟩, h2⟩, fun ⟨_, ⟨x, h1, h2⟩, h3⟩ => ⟨x, h1, by rw [h2]; exact h3⟩⟩
          rw [← hb]
          obtain ⟨w4, hw4⟩ : ∃ w4, w4 = wr := ⟨_, rfl⟩
          subst hw4
          clear hb hlt hbe
          go_wp2_with fail
          go_loopw [18, 17] (fun s18 s17 wr => ∃ (m : Nat) (T : List It), s18 = .int .i64 ((m : Int) - 1) ∧ m ≤ L.length ∧ Turn w.heap.size w4 L m s17 T wr) (fun s18 _ _ => (intOf s18 + 1).toNat)
          case atStart => exact ⟨L.length, [], rfl, Nat.le_refl _, World.ownsRow_nil _ _ _ _, fun x => by simp [Rg.In], fun e he => by simp at he, Below.refl _ _, by simp⟩
          case round =>
            obtain ⟨m, T, rfl, hmL, hgo⟩ := hrel
            have HGO : Hid (Turn w.heap.size w4 L m u17 T wr) := hgo
            have HB4 : Hid (Below w.heap.size w w4) := HBW.out
            have hs4 : w.heap.size ≤ w4.heap.size := HB4.out.size
            have HBR : Hid (Below w.heap.size w wr) := HB4.out.trans (hgo.below.mono hs4)
            obtain ⟨a3, c3, rfl⟩ := own_slice hgo.own
            have hsr : w4.heap.size ≤ wr.heap.size := hgo.below.size
            have hTf : T.length ≤ 2097152 := by have := hgo.few; omega
            by_cases hm0 : m = 0
            · have hkeys : ∀ x, Rg.In (F.map (·.r)) x ↔ Rg.In (T.map (·.r)) x := fun x => by rw [hgo.keys, hm0, List.drop_zero, HF.out, (Rg.cover_spec _).2]
              have HK : Hid (F.map (·.r) = Rg.cover (T.map (·.r))) := Rg.cover_is HCAN.out hkeys
              have HC : Hid (F.map (·.r) = Rg.cover (F.map (·.r))) := Rg.cover_is HCAN.out fun _ => Iff.rfl
              have HNB : Hid ((n = 1 ∧ b = true) ∨ (n = 0 ∧ b = false)) := by
                have h1 := HIN.out.2
                rw [HF.out, (Rg.cover_spec _).2, ← HB.out] at h1
                rw [Hid]
                cases b with
                | true => exact .inl ⟨h1.2 rfl, rfl⟩
                | false =>
                  refine .inr ⟨?_, rfl⟩
                  have : n ≠ 1 := fun h => by simpa using h1.1 h
                  omega
              have HLC : Hid (ListAt wr.heap.size wr (.slice a8 F.length c8) F) := (HLF.out.here HB3.out).here hgo.below
              have HLT : Hid (ListAt wr.heap.size wr (.slice a3 T.length c3) T) := by
                refine ⟨?_, by omega, fun e he => (hgo.ok e he).mono (by omega)⟩
                rcases own_row hgo.own with ⟨e, rfl⟩ | ⟨g, c, e, _, hc, _, hr⟩
                · cases e
                  exact ⟨none, 0, rfl, Nat.le_refl _, fun _ => rfl, fun j u hj => by simp [flat] at hj⟩
                · cases e
                  refine ⟨_, _, rfl, hc, fun h => (by cases h), fun j u hj => ⟨g, 0, rfl, hr.lt, ?_⟩⟩
                  obtain ⟨cur, h1, _, h3⟩ := hr.is
                  have hl := (List.getElem?_eq_some_iff.1 hj).1
                  rw [flat_length] at hl
                  rw [Nat.zero_add, row_cell h1, ← hj, ← h3, List.getElem?_take, if_pos hl, Array.getElem?_toList]
              obtain ⟨iz, hiz⟩ : ∃ iz : Int, iz = (m : Int) - 1 := ⟨_, rfl⟩
              rw [← hiz]
              have hneg : ¬ (0 : Int) ≤ iz := by omega
              clear hgo hkeys hiz hm0 hmL
              go_wp2_with fail
              refine (cover_any HLC.out).mono ?_
              rintro e w5 ⟨v5, F5, rfl, hF5, hnl5, hl5, hb5⟩
              have HB5 : Hid (Below wr.heap.size wr w5) := hb5
              have HS1 := sameRanges_any (hnl5.list (by omega)) (HLC.out.here hb5)
              rw [hF5, ← HC.out, decide_eq_true rfl] at HS1
              have hsl : ∃ a c, v5 = .slice a F5.length c := own_slice hnl5.own
              obtain ⟨a5, c5, rfl⟩ := hsl
              clear hF5 hnl5 hl5 hb5
              go_wp2_with fail
              refine HS1.mono ?_
              rintro e w6 ⟨rfl, hb6⟩
              have HB6 : Hid (Below wr.heap.size wr w6) := HB5.out.trans (hb6.mono HB5.out.size)
              clear HS1 hb6
              go_wp2_with fail
              refine (cover_any (HLT.out.here HB6.out)).mono ?_
              rintro e w7 ⟨v7, F7, rfl, hF7, hnl7, hl7, hb7⟩
              have HB7 : Hid (Below wr.heap.size wr w7) := HB6.out.trans (hb7.mono HB6.out.size)
              have HS2 := sameRanges_any (hnl7.list (by omega)) (HLC.out.here HB7.out)
              rw [hF7, ← HK.out, decide_eq_true rfl] at HS2
              have hsl : ∃ a c, v7 = .slice a F7.length c := own_slice hnl7.own
              obtain ⟨a7, c7, rfl⟩ := hsl
              clear hF7 hnl7 hl7 hb7
              go_wp2_with fail
              refine HS2.mono ?_
              rintro e w8 ⟨rfl, hb8⟩
              have HB8 : Hid (Below w.heap.size w w8) := HBR.out.trans ((HB7.out.trans (hb8.mono HB7.out.size)).mono HBR.out.size)
              clear HS2 hb8
              rcases HNB.out with ⟨rfl, rfl⟩ | ⟨rfl, rfl⟩
              · go_wp2
                go_ret
                exact ⟨by first | rfl | simp, HB8.out⟩
              · go_wp2
                go_ret
                exact ⟨by first | rfl | simp, HB8.out⟩
            · obtain ⟨j, hj⟩ : ∃ j, m = j + 1 := ⟨m - 1, by omega⟩
              have HJ : Hid (m = j + 1) := hj
              have hjz : (m : Int) - 1 = (j : Int) := by omega
              have hj0 : (0 : Int) ≤ (j : Int) := by omega
              have hjl : (j : Int) < (L.length : Int) := by omega
              have hjn : j < L.length := by omega
              obtain ⟨x, hx⟩ : ∃ x, L[j]? = some x := ⟨_, List.getElem?_eq_getElem hjn⟩
              have HX : Hid (L[j]? = some x) := hx
              obtain ⟨_, _, _, e1, k0, k1, k2⟩ := (HL.out.here HBR.out).cells j x hx
              cases e1
              have HXO : Hid (x.Ok w.heap.size wr) := (HL.out.ok x (List.mem_of_getElem? hx)).below HBR.out
              rw [hjz]
              obtain ⟨y1, y2, r⟩ := x
              obtain ⟨p1, q1, e1⟩ := HXO.out.lo.form
              obtain ⟨p2, q2, e2⟩ := HXO.out.hi.form
              simp only at e1 e2
              subst e1 e2
              obtain ⟨wa, hwa⟩ : ∃ wa, wa = wr.alloc (.cells #[.slice p1 r.lo.length q1, .slice p2 r.hi.length q2, .bool r.all] 24) := ⟨_, rfl⟩
              have hba : Below wr.heap.size wr wa := by rw [hwa]; exact below_new _ _
              have hbox : Box wa wr.heap.size (.slice p1 r.lo.length q1) (.slice p2 r.hi.length q2) (.bool r.all) := by rw [hwa]; exact Box.new _ _ _ _
              have HBA : Hid (Below wr.heap.size wr wa) := hba
              have HBOX : Hid (Box wa wr.heap.size (.slice p1 r.lo.length q1) (.slice p2 r.hi.length q2) (.bool r.all)) := hbox
              have hswr : w.heap.size ≤ wr.heap.size := by omega
              have HHA := has_any (w := wa) ((HXO.out.below (hba.mono hswr)).range.at (Nat.le_trans hswr hba.size)) ((HT.out.here HBR.out).here hba)
              simp only [It.val] at HHA k0 k1 k2
              clear hgo hx hba hj hjz hm0
              obtain ⟨b0, b1, b2⟩ := hbox.cells
              clear hbox
              go_upto_region 25 with fail
              rw [← hwa]
              clear hwa k0 k1 k2
              go_wp2_with fail
              refine HHA.mono ?_
              rintro e w6 ⟨rfl, hb6⟩
              have HB6 : Hid (Below wa.heap.size wa w6) := hb6
              clear HHA hb6 b0 b1 b2
              obtain ⟨b0, b1, b2⟩ := (HBOX.out.here HB6.out).cells
              have HB7 : Hid (Below wr.heap.size wr w6) := HBA.out.trans (HB6.out.mono HBA.out.size)
              have hs6 : wr.heap.size ≤ w6.heap.size := HB7.out.size
              have HOWN2 : Hid (∀ (o : Obj), (w6.alloc o).ownsRow w4.heap.size 24 3 (.slice a3 T.length c3) T.length (flat T)) := by
                intro o
                have hb : Below wr.heap.size wr (w6.alloc o) := HB7.out.alloc hs6 o
                exact own_same HGO.out.own fun b _ hl => hb.block b hl
              have HGROW : Hid (∀ (o : Obj) (w' : World), (w6.alloc o).grownBy w' (Value.slice a3 T.length c3).ownBlock → Below w4.heap.size wr w') := by
                intro o w' hg
                have hb : Below wr.heap.size wr (w6.alloc o) := HB7.out.alloc hs6 o
                exact (hb.mono hsr).grown hg (Nat.le_trans hsr hb.size) (fun k hk => (own_type HGO.out.own k hk).2.1)
              cases hh : r.has k with
              | false =>
                have HONE : Hid (∀ u ∈ flat [(⟨.slice p1 r.lo.length q1, .slice p2 r.hi.length q2, r⟩ : It)], u.oneCell' = true) := by rw [Hid]; simpa [flat] using slice_one3 HXO.out
                clear hh
                go_wp2_with (at_builtin
                             refine wpList_append_own _ rfl _ _ 33 rfl w4.heap.size 24 i0 (.agg #[.slice none 0 0, .slice none 0 0, .bool false]) 3 56 Try.underlying33 hi hz0 hz1 hz2 rfl (by decide) _ T.length (flat T) rfl (HOWN2.out _) ⟨w6.heap.size, 0, none⟩ 1 1 (flat [(⟨.slice p1 r.lo.length q1, .slice p2 r.hi.length q2, r⟩ : It)]) rfl rfl (lits_cells w6 [(⟨.slice p1 r.lo.length q1, .slice p2 r.hi.length q2, r⟩ : It)] _ rfl) HONE.out (by unfold maxLen; omega) (by omega) (by simp; omega) ?_
                             intro v' w' hown hgr hiff
                             have HOW : Hid (w'.ownsRow w4.heap.size 24 3 v' (T.length + 1) (flat T ++ flat [(⟨.slice p1 r.lo.length q1, .slice p2 r.hi.length q2, r⟩ : It)])) := hown
                             have HGR : Hid _ := hgr
                             clear hown hgr hiff)
                exact ⟨⟨j, T ++ [⟨.slice p1 r.lo.length q1, .slice p2 r.hi.length q2, r⟩], by go_num, by omega, (HJ.out ▸ HGO.out : Turn w.heap.size w4 L (j + 1) _ T wr).step HX.out (fun y => by simp [Rg.In]) (by simp) (fun e he => by simp only [List.mem_singleton] at he; subst he; exact HXO.out) hs4 HOW.out (HGROW.out _ w' HGR.out)⟩, by simp [intOf]⟩
              | true =>
                have HHH : Hid (r.has k = true) := hh
                have HKI : Hid (KeyIn w.heap.size wr (.slice a1 k.length c1) k) := HT.out.in.below HBR.out
                have HONE : Hid (∀ u ∈ flat [(⟨.slice p1 r.lo.length q1, .slice p2 r.hi.length q2, r⟩ : It)], u.oneCell' = true) := by rw [Hid]; simpa [flat] using slice_one3 HXO.out
                have HN1 : Hid (It.Ok w.heap.size wr ⟨.slice a1 k.length c1, .slice p2 r.hi.length q2, ⟨k, r.hi, r.all⟩⟩) := ⟨HKI.out, HXO.out.hi⟩
                have HN2 : Hid (It.Ok w.heap.size wr ⟨.slice p1 r.lo.length q1, .slice a1 k.length c1, ⟨r.lo, k, false⟩⟩) := ⟨HXO.out.lo, HKI.out⟩
                have HONE2 : Hid (∀ u ∈ flat [(⟨.slice a1 k.length c1, .slice p2 r.hi.length q2, ⟨k, r.hi, r.all⟩⟩ : It), ⟨.slice p1 r.lo.length q1, .slice a1 k.length c1, ⟨r.lo, k, false⟩⟩], u.oneCell' = true) := by
                  intro u hu
                  simp only [flat, List.flatMap_cons, List.flatMap_nil, List.append_nil, List.mem_append] at hu
                  rcases hu with h | h
                  · exact slice_one3 HN1.out u h
                  · exact slice_one3 HN2.out u h
                clear hh
                go_wp2_with (first
                  | (at_builtin
                     refine wpList_append_own _ rfl _ _ 33 rfl w4.heap.size 24 i0 (.agg #[.slice none 0 0, .slice none 0 0, .bool false]) 3 56 Try.underlying33 hi hz0 hz1 hz2 rfl (by decide) _ T.length (flat T) rfl (HOWN2.out _) ⟨w6.heap.size, 0, none⟩ 1 1 (flat [(⟨.slice p1 r.lo.length q1, .slice p2 r.hi.length q2, r⟩ : It)]) rfl rfl (lits_cells w6 [(⟨.slice p1 r.lo.length q1, .slice p2 r.hi.length q2, r⟩ : It)] _ rfl) HONE.out (by unfold maxLen; omega) (by omega) (by simp; omega) ?_
                     intro v' w' hown hgr hiff
                     have HOW : Hid (w'.ownsRow w4.heap.size 24 3 v' (T.length + 1) (flat T ++ flat [(⟨.slice p1 r.lo.length q1, .slice p2 r.hi.length q2, r⟩ : It)])) := hown
                     have HGR : Hid _ := hgr
                     clear hown hgr hiff)
                  | (at_builtin
                     refine wpList_append_own _ rfl _ _ 33 rfl w4.heap.size 24 i0 (.agg #[.slice none 0 0, .slice none 0 0, .bool false]) 3 56 Try.underlying33 hi hz0 hz1 hz2 rfl (by decide) _ T.length (flat T) rfl (HOWN2.out _) ⟨w6.heap.size, 0, none⟩ 2 2 (flat [(⟨.slice a1 k.length c1, .slice p2 r.hi.length q2, ⟨k, r.hi, r.all⟩⟩ : It), ⟨.slice p1 r.lo.length q1, .slice a1 k.length c1, ⟨r.lo, k, false⟩⟩]) rfl rfl (lits_cells w6 [(⟨.slice a1 k.length c1, .slice p2 r.hi.length q2, ⟨k, r.hi, r.all⟩⟩ : It), ⟨.slice p1 r.lo.length q1, .slice a1 k.length c1, ⟨r.lo, k, false⟩⟩] _ rfl) HONE2.out (by unfold maxLen; omega) (by omega) (by simp; omega) ?_
                     intro v' w' hown hgr hiff
                     have HOW : Hid (w'.ownsRow w4.heap.size 24 3 v' (T.length + 2) (flat T ++ flat [(⟨.slice a1 k.length c1, .slice p2 r.hi.length q2, ⟨k, r.hi, r.all⟩⟩ : It), ⟨.slice p1 r.lo.length q1, .slice a1 k.length c1, ⟨r.lo, k, false⟩⟩])) := hown
                     have HGR : Hid _ := hgr
                     clear hown hgr hiff))
                · exact ⟨⟨j, T ++ [⟨.slice a1 k.length c1, .slice p2 r.hi.length q2, ⟨k, r.hi, r.all⟩⟩, ⟨.slice p1 r.lo.length q1, .slice a1 k.length c1, ⟨r.lo, k, false⟩⟩], by go_num, by omega, (HJ.out ▸ HGO.out : Turn w.heap.size w4 L (j + 1) _ T wr).step HX.out (fun y => by rw [← Rg.cut_two r k HHH.out y]; simp [Rg.In]) (by simp) (fun e he => by simp only [List.mem_cons, List.not_mem_nil, or_false] at he; rcases he with rfl | rfl <;> first | exact HN1.out | exact HN2.out) hs4 HOW.out (HGROW.out _ w' HGR.out)⟩, by simp [intOf]⟩
                · exact ⟨⟨j, T ++ [⟨.slice p1 r.lo.length q1, .slice p2 r.hi.length q2, r⟩], by go_num, by omega, (HJ.out ▸ HGO.out : Turn w.heap.size w4 L (j + 1) _ T wr).step HX.out (fun y => by simp [Rg.In]) (by simp) (fun e he => by simp only [List.mem_singleton] at he; subst he; exact HXO.out) hs4 HOW.out (HGROW.out _ w' HGR.out)⟩, by simp [intOf]⟩
end Go.Proofs.Ytphohkchffcjeab
