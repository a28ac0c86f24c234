/- LeafMap: the walk. -/
import Derived.Test.YtgifnaahahfhbabMapPure
import Derived.Test.YtgifnaahahfhbabFits
import Derived.Deep.AppendLies
namespace Go.Proofs.Ytgifnaahahfhbab
open Go.RowKit

theorem infoBytes : (Try.prog.info? 23).map (fun i => (i.zero, i.size, i.bytes)) = some (some (.slice none 0 0), 1, 24) := by kernel_rfl
theorem infoBytes' : ∃ i, Try.prog.info? 23 = some i ∧ i.zero = some (.slice none 0 0) ∧ i.size = 1 ∧ i.bytes = 24 := by
  have h := infoBytes
  cases hi : Try.prog.info? 23 with
  | none => rw [hi] at h; simp at h
  | some i => rw [hi] at h; simp at h; exact ⟨i, rfl, h⟩
theorem slice_one (a : Option Addr) (n c : Nat) : ∀ u ∈ [Value.slice a n c], u.oneCell' = true := fun u hu => by simp at hu; rw [hu]; rfl
theorem one_src (w : World) (x : Value) (j : Nat) (u : Value) (hj : [x][j]? = some u) : (w.alloc (.cells #[x] 23)).cell? ((⟨w.heap.size, 0, none⟩ : Addr).add j) = some u := by
  rw [add_at, row_cell (heap_alloc_last w _)]
  simpa using hj
theorem own_shape {w : World} {base n s : Nat} {T : TypeId} {v : Value} {xs : List Value} (h : w.ownsRow base T s v n xs) : ∃ a m c, v = .slice a m c := by
  obtain ⟨_, ⟨e, _⟩ | ⟨g, cap, cur, e, _⟩⟩ := h
  · exact ⟨_, _, _, e⟩
  · exact ⟨_, _, _, e⟩
theorem own_cell {w : World} {base n i : Nat} {T : TypeId} {v u : Value} {xs : List Value} (h : w.ownsRow base T 1 v n xs) (hi : xs[i]? = some u) : ∃ g c, v = .slice (some ⟨g, 0, none⟩) n c ∧ w.cell? ⟨g, i, none⟩ = some u := by
  obtain ⟨hl, ⟨e, h0⟩ | ⟨g, cap, cur, e, _, hg, _, _, _, ht⟩⟩ := h
  · have := (List.getElem?_eq_some_iff.1 hi).1
    omega
  · refine ⟨g, cap, e, ?_⟩
    have h1 := (List.getElem?_eq_some_iff.1 hi).1
    rw [row_cell hg, ← hi, ← ht, List.getElem?_take, if_pos (by omega), Array.getElem?_toList]
theorem own_form' {w : World} {base n s : Nat} {T : TypeId} {v : Value} {xs : List Value} (h : w.ownsRow base T s v n xs) : ∃ a c, v = .slice a n c := by
  obtain ⟨_, ⟨e, h0⟩ | ⟨g, cap, cur, e, _⟩⟩ := h
  · exact ⟨_, _, by rw [e, h0]⟩
  · exact ⟨_, _, e⟩
theorem key_lt_not {a b : Key} (h : a < b) : ¬ b ≤ a := by grind
theorem key_not_lt {a b : Key} (h : ¬ a < b) : b ≤ a := by grind
theorem cell_stays {w w' : World} {a : Addr} {v : Value} (hb : Below w.heap.size w w') (h : w.cell? a = some v) : w'.cell? a = some v := by
  have hl : a.block < w.heap.size := by
    rcases Nat.lt_or_ge a.block w.heap.size with h' | h'
    · exact h'
    · simp [World.cell?, Array.getElem?_eq_none h'] at h
  rw [hb.cell hl]; exact h
theorem own_len {w : World} {base n m c s : Nat} {T : TypeId} {a : Option Addr} {xs : List Value} (h : w.ownsRow base T s (.slice a m c) n xs) : m = n := by
  obtain ⟨_, ⟨e, h0⟩ | ⟨g, cap, cur, e, _⟩⟩ := h
  · cases e; exact h0.symm
  · cases e; rfl
/-- The list of keys, while it grows. -/
structure KeyRow (w wx : World) (j : Nat) (ks : Value) (KL : List (Value × Key)) : Prop where
  own : wx.ownsRow w.heap.size 23 1 ks KL.length (KL.map (·.1))
  keys : ∀ q ∈ KL, KeyAt w q.1 q.2
  len : KL.length = j + 2
  low : Below w.heap.size w wx

set_option maxHeartbeats 12800000 in
set_option maxRecDepth 100000 in
theorem map_walk {w : World} {v : Value} {x : Asked} (h : v = .agg x.cells ∧ x.Ok w) :
    Calls Try.prog 4 #[v] w fun e w' => e = .returned (.bool true) ∧ Below w.heap.size w w' := by
  obtain ⟨rfl, hx⟩ := h
  obtain ⟨sz, pos, vl, L, e, r1, r2, r, vb, b, vm, more, vk, key⟩ := x
  obtain ⟨hsz, hpos, hL, he, hr1, hr2, _, _, hky⟩ := hx
  simp only at hL he hr1 hr2 hky
  have hsh := hL.short
  obtain ⟨aL, cL, rfl⟩ := hL.form
  obtain ⟨a1, c1, f1⟩ := he.k.form
  obtain ⟨a2, c2, f2⟩ := he.v.form
  obtain ⟨e1, e2, ye⟩ := e
  simp only at f1 f2
  subst f1 f2
  obtain ⟨b1, d1, rfl⟩ := hr1.in.form
  obtain ⟨b2, d2, rfl⟩ := hr2.in.form
  have HL : Hid (ListAt w.heap.size w (.slice aL L.length cL) L) := hL
  have HE : Hid (It.Ok w.heap.size w ⟨.slice a1 ye.k.length c1, .slice a2 ye.v.length c2, ye⟩) := he
  have HRG : Hid (∀ w', Below w.heap.size w w' → RangeAt w' (.agg #[.slice b1 r.lo.length d1, .slice b2 r.hi.length d2, .bool r.all]) r) := fun w' hb => ⟨_, _, rfl, hr1.here hb, hr2.here hb⟩
  obtain ⟨W0, hW0⟩ : ∃ W0, W0 = w.alloc (.cells (Asked.cells ⟨sz, pos, .slice aL L.length cL, L, ⟨.slice a1 ye.k.length c1, .slice a2 ye.v.length c2, ye⟩, .slice b1 r.lo.length d1, .slice b2 r.hi.length d2, r, vb, b, vm, more, vk, key⟩) 29) := ⟨_, rfl⟩
  have HB0 : Hid (Below w.heap.size w W0) := by rw [hW0]; exact below_new _ _
  have HA0 : Hid (ABox W0 w.heap.size ⟨sz, pos, .slice aL L.length cL, L, ⟨.slice a1 ye.k.length c1, .slice a2 ye.v.length c2, ye⟩, .slice b1 r.lo.length d1, .slice b2 r.hi.length d2, r, vb, b, vm, more, vk, key⟩) := by rw [hW0]; exact ⟨heap_alloc_last _ _⟩
  obtain ⟨ck1, ck2, rfl⟩ := hky.in.form
  have HKY : Hid (KeyAt w (.slice ck1 key.length ck2) key) := hky
  clear hL he hr1 hr2 hsz hpos hky
  go_enter Try.func4, Try.ntmps4
  go_wp2_with fail
  rw [← hW0]
  clear hW0
  refine (shown_any W0).mono ?_
  rintro e1 w1 ⟨rfl, hb1⟩
  have HB1 : Hid (Below w.heap.size w w1) := HB0.out.trans (hb1.mono HB0.out.size)
  have hA1 := HA0.out.here hb1
  have HA1 : Hid _ := hA1
  clear hb1
  obtain ⟨w3, hw3⟩ : ∃ w3, w3 = w1 := ⟨_, rfl⟩
  rw [← hw3] at hA1
  have hA3 := hA1
  have HB3 : Hid (Below w.heap.size w w3) := by rw [hw3]; exact HB1.out
  rw [← hw3]
  clear hw3 hA1
  have t2 := hA3.cell 2 (.slice aL L.length cL) rfl
  have t3 := hA3.cell 3 (.slice a1 ye.k.length c1) rfl
  have t4 := hA3.cell 4 (.slice a2 ye.v.length c2) rfl
  obtain ⟨W4, hW4⟩ : ∃ W4, W4 = w3.alloc (.cells #[.slice a1 ye.k.length c1, .slice a2 ye.v.length c2] 25) := ⟨_, rfl⟩
  have HB34 : Hid (Below w3.heap.size w3 W4) := by rw [hW4]; exact below_new _ _
  have HX4 : Hid (EBox W4 w3.heap.size (.slice a1 ye.k.length c1) (.slice a2 ye.v.length c2)) := by rw [hW4]; exact EBox.new _ _ _
  have hA4 := hA3.here HB34.out
  have u5 : (w3.alloc (.cells #[.slice a1 ye.k.length c1, .slice a2 ye.v.length c2] 25)).cell? ⟨w.heap.size, 5, none⟩ = some (.slice b1 r.lo.length d1) := by rw [← hW4]; exact hA4.cell 5 _ rfl
  have u6 : (w3.alloc (.cells #[.slice a1 ye.k.length c1, .slice a2 ye.v.length c2] 25)).cell? ⟨w.heap.size, 6, none⟩ = some (.slice b2 r.hi.length d2) := by rw [← hW4]; exact hA4.cell 6 _ rfl
  have u7 : (w3.alloc (.cells #[.slice a1 ye.k.length c1, .slice a2 ye.v.length c2] 25)).cell? ⟨w.heap.size, 7, none⟩ = some (.bool r.all) := by rw [← hW4]; exact hA4.cell 7 _ rfl
  obtain ⟨W5, hW5⟩ : ∃ W5, W5 = W4.alloc (.cells #[.slice b1 r.lo.length d1, .slice b2 r.hi.length d2, .bool r.all] 27) := ⟨_, rfl⟩
  have HB45 : Hid (Below W4.heap.size W4 W5) := by rw [hW5]; exact below_new _ _
  have HR5 : Hid (Box W5 W4.heap.size (.slice b1 r.lo.length d1) (.slice b2 r.hi.length d2) (.bool r.all)) := by rw [hW5]; exact Box.new _ _ _ _
  have HX5 : Hid (EBox W5 w3.heap.size (.slice a1 ye.k.length c1) (.slice a2 ye.v.length c2)) := HX4.out.here HB45.out
  have HB5 : Hid (Below w.heap.size w W5) := (HB3.out.trans (HB34.out.mono HB3.out.size)).trans (HB45.out.mono (Nat.le_trans HB3.out.size HB34.out.size))
  have hA5 := hA4.here HB45.out
  have u10 : ((w3.alloc (.cells #[.slice a1 ye.k.length c1, .slice a2 ye.v.length c2] 25)).alloc (.cells #[.slice b1 r.lo.length d1, .slice b2 r.hi.length d2, .bool r.all] 27)).cell? ⟨w.heap.size, 10, none⟩ = some (.slice ck1 key.length ck2) := by rw [← hW4, ← hW5]; exact hA5.cell 10 _ rfl
  have t25 := hA5.cell 2 (.slice aL L.length cL) rfl
  have hs4 : W4.heap.size = w3.heap.size + 1 := by rw [hW4]; simp
  rw [hs4] at HR5
  go_wp2_with fail
  rw [← hW4, ← hW5]
  clear hW5 hW4 u5 u6 u7 u10 t2 t3 t4 hA3 hA4
  have hwz : w.heap.size ≤ W5.heap.size := HB5.out.size
  obtain ⟨k0, k1⟩ := HX5.out.cells
  have HY5 : Hid (∀ w', Below W5.heap.size W5 w' → It.Ok w'.heap.size w' ⟨.slice a1 ye.k.length c1, .slice a2 ye.v.length c2, ye⟩) := fun w' hb => (HE.out.here HB5.out).here hb
  have HWL : Hid (∀ W, Below W5.heap.size W5 W → Calls Try.prog 8 #[.slice aL L.length cL] W fun e w' => (∃ s : Nat, e = .returned (.int .i64 s) ∧ s ≤ 1000000000000000 ∧ (s ≤ 2147483647 → weightE (L.map It.e) = s)) ∧ ∃ q, w' = W.drewN q) := fun W hb => weight_any (HL.out.here (HB5.out.trans (hb.mono hwz)))
  have HWE : Hid (∀ W0 W, Below W5.heap.size W5 W0 → Below (W0.heap.size + 1) (W0.alloc (.cells #[.slice a1 ye.k.length c1, .slice a2 ye.v.length c2] 25)) W → Calls Try.prog 8 #[.slice (some ⟨W0.heap.size, 0, none⟩) 1 1] W fun e w' => (∃ s : Nat, e = .returned (.int .i64 s) ∧ s ≤ 1000000000000000 ∧ (s ≤ 2147483647 → weightE [ye] = s)) ∧ ∃ q, w' = W.drewN q) := fun W0 W hb hb2 => by
    have q := list_one W0 ⟨.slice a1 ye.k.length c1, .slice a2 ye.v.length c2, ye⟩ (HY5.out W0 hb)
    simp only at q
    refine (weight_any (q.here ?_)).mono ?_
    · simpa using hb2
    · rintro e w' h
      simpa using h
  have HA5 : Hid _ := hA5
  clear hA5
  go_cut [35] (fun s35 wx => (∃ t : Bool, s35 = .bool t ∧ (t = false → weightE (L.map It.e) + weightE [ye] ≤ 2147483647)) ∧ Below W5.heap.size W5 wx)
  case first =>
    go_region_held_law (fun W' => W'.cell? ⟨w3.heap.size, 0, none⟩ = some (.slice a1 ye.k.length c1) ∧ W'.cell? ⟨w3.heap.size, 1, none⟩ = some (.slice a2 ye.v.length c2) ∧ W'.cell? ⟨w.heap.size, 2, none⟩ = some (.slice aL L.length cL)) (first | go_keep | (refine ⟨?_, ?_, ?_⟩ <;> assumption))
      (first
        | (go_at_call_of 8 (Value.slice aL L.length cL)
           refine (HWL.out _ (by first | exact (Below.refl _ _).drew | exact (Below.refl _ _).drew.alloc (Nat.le_refl _) _)).mono ?_
           rintro e1 w6 ⟨⟨s1, rfl, hs1, hsw1⟩, q6, rfl⟩
           have HW1 : Hid (s1 ≤ 2147483647 → weightE (L.map It.e) = s1) := hsw1
           clear hsw1)
        | (go_at_call 8
           first
             | refine (HWE.out (W5.drewN (1 + q6)) _ (below_draws (Below.refl _ _) _) (Below.refl _ _)).mono ?_
             | refine (HWE.out W5.drew _ ((Below.refl _ _).drew) (by first | exact Below.refl _ _ | exact below_draws (Below.refl _ _) _)).mono ?_
           rintro e1 w7 ⟨⟨s2, rfl, hs2, hsw2⟩, q7, rfl⟩
           have HW2 : Hid (s2 ≤ 2147483647 → weightE [ye] = s2) := hsw2
           clear hsw2))
    all_goals
      go_wp2_with fail
      go_meet
      refine ⟨⟨_, rfl, fun ht => ?_⟩, ?_⟩
      · have hw := wrap_little (j := s1 + s2) (by omega)
        rw [Int.natCast_add] at hw
        rw [hw] at ht
        have ht2 := of_decide_eq_false ht
        rw [HW1.out (by omega), HW2.out (by omega)]
        omega
      · first
          | exact below_draws ((below_draws (Below.refl _ _) _).alloc (Nat.le_refl _) _) _
          | exact below_draws (((Below.refl _ _).drew).alloc (Nat.le_refl _) _) _
  case rest =>
    obtain ⟨⟨t, rfl, ht⟩, hbc⟩ := hcut
    have HT : Hid (t = false → weightE (L.map It.e) + weightE [ye] ≤ 2147483647) := ht
    have HBC : Hid (Below w.heap.size w wc) := HB5.out.trans (hbc.mono hwz)
    have HXC : Hid (EBox wc w3.heap.size (.slice a1 ye.k.length c1) (.slice a2 ye.v.length c2)) := HX5.out.here hbc
    have HRC : Hid (Box wc (w3.heap.size + 1) (.slice b1 r.lo.length d1) (.slice b2 r.hi.length d2) (.bool r.all)) := HR5.out.here hbc
    have t2 := (ABox.here HA5.out hbc).cell 2 (.slice aL L.length cL) rfl
    clear ht hbc HWL HWE k0 k1 HX5 HR5 HY5 HX4 t25 HA5
    cases t with
    | true =>
      go_wp2
      go_ret
      exact ⟨rfl, HBC.out⟩
    | false =>
      have hwt : weightE (L.map It.e) + weightE [ye] ≤ 2147483647 := HT.out rfl
      have HWT : Hid _ := hwt
      have hup : (L.length + 1) * 48 ≤ 140737488355328 := by
        have := weightE_length (L.map It.e)
        rw [List.length_map] at this
        omega
      clear HT hwt
      go_wp2_with fail
      refine (risen_any (HL.out.here HBC.out)).mono ?_
      rintro e1 w6 ⟨vo, F, rfl, hri⟩
      have hFl := hri.len
      have hFL := hri.list (HL.out.here HBC.out).ok (by omega)
      obtain ⟨af, cf, q1⟩ := hFL.form
      subst q1
      have HFL : Hid (ListAt w6.heap.size w6 (.slice af F.length cf) F) := hFL
      have HFR : Hid (RisenE (F.map It.e)) := by rw [hri.is]; exact risenE_risen _
      have HB6 : Hid (Below w.heap.size w w6) := HBC.out.trans (hri.low.mono HBC.out.size)
      have HX6 : Hid (EBox w6 w3.heap.size (.slice a1 ye.k.length c1) (.slice a2 ye.v.length c2)) := HXC.out.here hri.low
      have HR6 : Hid (Box w6 (w3.heap.size + 1) (.slice b1 r.lo.length d1) (.slice b2 r.hi.length d2) (.bool r.all)) := HRC.out.here hri.low
      clear hri hFL HXC HRC t2
      obtain ⟨k0, k1⟩ := HX6.out.cells
      have HSE := set_any (y := ⟨.slice a1 ye.k.length c1, .slice a2 ye.v.length c2, ye⟩) HFL.out (HE.out.here HB6.out) rfl HFR.out (by omega)
      go_wp2_with fail
      refine HSE.mono ?_
      rintro e1 w7 ⟨p, b', vg, G, rfl, hfa, hG, hnl, hb7⟩
      have HB7 : Hid (Below w.heap.size w w7) := HB6.out.trans (hb7.mono HB6.out.size)
      have HX7 : Hid (EBox w7 w3.heap.size (.slice a1 ye.k.length c1) (.slice a2 ye.v.length c2)) := HX6.out.here hb7
      have hr7 := HR6.out.here hb7
      have hGl : G.length ≤ F.length + 1 := by
        have h1 := congrArg List.length hG
        have h2 := put_length (l := F.map It.e) (e := ye) (p := p) (b := b')
        simp only [List.length_map] at h1 h2
        omega
      have hGL : ListAt w7.heap.size w7 vg G := hnl.list (by omega)
      obtain ⟨ag, cg, q1⟩ := hGL.form
      subst q1
      have HGL : Hid (ListAt w7.heap.size w7 (.slice ag G.length cg) G) := hGL
      have HGR : Hid (RisenE (G.map It.e)) := by rw [hG]; exact put_risen HFR.out hfa
      have HGV : Hid (∀ k, valE (G.map It.e) k = if k = ye.k then some ye.v else valE (F.map It.e) k) := by rw [hG]; exact val_put HFR.out hfa
      have HF7 : Hid (ListAt w7.heap.size w7 (.slice af F.length cf) F) := HFL.out.here hb7
      have HR7 : Hid _ := hr7
      clear hnl hfa hG hb7 hGL HSE k0 k1 HX6 HR6 HB6 HFL
      obtain ⟨k0, k1, k2⟩ := hr7.cells
      clear hr7
      go_wp2_with fail
      refine (cut_any HGL.out (HRG.out w7 HB7.out)).mono ?_
      rintro e1 w8 ⟨vh, H, rfl, hH, hnl, hb8⟩
      have HB8 : Hid (Below w.heap.size w w8) := HB7.out.trans (hb8.mono HB7.out.size)
      have HX8 : Hid (EBox w8 w3.heap.size (.slice a1 ye.k.length c1) (.slice a2 ye.v.length c2)) := HX7.out.here hb8
      have HR8 : Hid (Box w8 (w3.heap.size + 1) (.slice b1 r.lo.length d1) (.slice b2 r.hi.length d2) (.bool r.all)) := Box.here HR7.out hb8
      have HF8 : Hid (ListAt w8.heap.size w8 (.slice af F.length cf) F) := HF7.out.here hb8
      have HG8 : Hid (ListAt w8.heap.size w8 (.slice ag G.length cg) G) := HGL.out.here hb8
      have hHl : H.length ≤ G.length := by
        have h1 := congrArg List.length hH
        have h2 : (cutE r (G.map It.e)).length ≤ (G.map It.e).length := List.length_filter_le _ _
        simp only [List.length_map] at h1 h2
        omega
      have hHL : ListAt w8.heap.size w8 vh H := hnl.list (by omega)
      obtain ⟨ah, ch, q1⟩ := hHL.form
      subst q1
      have HHL : Hid (ListAt w8.heap.size w8 (.slice ah H.length ch) H) := hHL
      have HHR : Hid (RisenE (H.map It.e)) := by rw [hH]; exact HGR.out.sub List.filter_sublist
      have HHV : Hid (∀ k, valE (H.map It.e) k = if r.has k then none else valE (G.map It.e) k) := by rw [hH]; exact val_cut r _
      clear hnl hH hb8 hHL k0 k1 k2 HX7 HR7 HB7 HF7 HGL
      have hnn : ((G.length - H.length : Nat) : Int) = (G.length : Int) - (H.length : Int) := by omega
      obtain ⟨k0, k1⟩ := HX8.out.cells
      rw [hnn]
      obtain ⟨i7, hi7, hz70, hz71, hz72⟩ := infoBytes'
      go_wp2_with fail
      obtain ⟨w9, hw9⟩ : ∃ w9, w9 = w8.alloc (.cells #[.slice ck1 key.length ck2, .slice a1 ye.k.length c1] 23) := ⟨_, rfl⟩
      rw [← hw9]
      have HKR : Hid (KeyRow w8 w9 0 (.slice (some ⟨w8.heap.size, 0, none⟩) 2 2) [(.slice ck1 key.length ck2, key), (.slice a1 ye.k.length c1, ye.k)]) := by
        rw [hw9]
        refine ⟨⟨rfl, .inr ⟨w8.heap.size, 2, #[.slice ck1 key.length ck2, .slice a1 ye.k.length c1], rfl, Nat.le_refl _, heap_alloc_last _ _, Nat.le_refl _, by unfold maxLen; omega, rfl, rfl⟩⟩, ?_, rfl, below_new _ _⟩
        intro q hq
        simp at hq
        rcases hq with rfl | rfl
        · exact HKY.out.here HB8.out
        · exact (HE.out.here HB8.out).k.at (Nat.le_refl _)
      clear hw9 k0 k1 hnn
      go_loopw [11, 12] (fun ks i wx => ∃ (j : Nat) (KL : List (Value × Key)), j ≤ F.length ∧ i = .int .i64 j ∧ KeyRow w8 wx j ks KL) (fun _ i _ => F.length - (intOf i).toNat)
      case atStart => exact ⟨0, _, by omega, rfl, HKR.out⟩
      case round =>
        obtain ⟨j, KL, hj, rfl, hkr⟩ := hrel
        have HK : Hid _ := hkr
        have HLN : Hid (KL.length = j + 2) := hkr.len
        obtain ⟨ka, kn, kc, q1⟩ := own_shape hkr.own
        subst q1
        clear hkr HKR
        by_cases hlt : j < F.length
        · have hz : (j : Int) < (F.length : Int) := by omega
          obtain ⟨e, he⟩ : ∃ e, F[j]? = some e := ⟨_, List.getElem?_eq_getElem hlt⟩
          obtain ⟨g, off, c', e1, k0, k1⟩ := (HF8.out.here HK.out.low).cells j e he
          cases e1
          have heo := HF8.out.ok e (List.mem_of_getElem? he)
          obtain ⟨a3, c3, f1⟩ := heo.k.form
          have HK1 : Hid (KeyAt w8 (.slice a3 e.e.k.length c3) e.e.k) := by rw [← f1]; exact heo.k.at (Nat.le_refl _)
          rw [f1] at k0
          obtain ⟨wA, hwA⟩ : ∃ wA, wA = wr.alloc (.cells #[.slice a3 e.e.k.length c3] 23) := ⟨_, rfl⟩
          have HBA : Hid (Below wr.heap.size wr wA) := by rw [hwA]; exact below_new _ _
          have HWA : Hid (wr.alloc (.cells #[.slice a3 e.e.k.length c3] 23) = wA) := hwA.symm
          have HNEW : Hid (∀ (j : Nat) (u : Value), [Value.slice a3 e.e.k.length c3][j]? = some u → wA.cell? ((⟨wr.heap.size, 0, none⟩ : Addr).add j) = some u) := by rw [hwA]; exact one_src wr _
          have HKO : Hid (wA.ownsRow w8.heap.size 23 1 (.slice ka kn kc) KL.length (KL.map (·.1))) := own_same HK.out.own fun k _ hl => HBA.out.block k hl
          have hwr := HK.out.low.size
          clear hwA heo he f1 k1
          go_wp2_with (at_builtin; go_loud (
            rw [HWA.out]
            refine wpList_append_lies _ rfl _ _ 45 rfl w8.heap.size 23 i7 (.slice none 0 0) 1 24 Try.underlying45 hi7 hz70 hz71 hz72 rfl (by decide) (.slice ka kn kc) KL.length (KL.map (·.1)) rfl HKO.out ⟨wr.heap.size, 0, none⟩ 1 1 [.slice a3 e.e.k.length c3] rfl rfl HNEW.out (slice_one _ _ _) (by decide) (by unfold maxLen; have := HLN.out; omega) (by have := HLN.out; omega) (Nat.le_trans hwr HBA.out.size) _ rfl ?_
            intro g6 c6 w10 ho6 hg6 _ _
            have HO6 : Hid _ := ho6
            have HB10 : Hid (Below w8.heap.size w8 w10) := (HK.out.low.trans (HBA.out.mono hwr)).trans ((Below.refl _ _).grown hg6 (Nat.le_trans hwr HBA.out.size) (fun k e => (own_type HKO.out k e).2.1))
            clear ho6 hg6))
          go_wp2
          refine ⟨⟨j + 1, KL ++ [(.slice a3 e.e.k.length c3, e.e.k)], by omega, by go_num, ?_, ?_, ?_, HB10.out⟩, by simp [intOf]; omega⟩
          · rw [List.length_append, List.map_append]; exact HO6.out
          · intro q hq
            rcases List.mem_append.1 hq with h | h
            · exact HK.out.keys q h
            · simp at h; rw [h]; exact HK1.out
          · rw [List.length_append, HLN.out]; simp only [List.length_singleton]
        · have hz : ¬ (j : Int) < (F.length : Int) := by omega
          obtain rfl := own_len HK.out.own
          go_wp2_with fail
          obtain ⟨w10, hw10⟩ : ∃ w10, w10 = wr := ⟨_, rfl⟩
          have HKO : Hid (w10.ownsRow w8.heap.size 23 1 (.slice ka KL.length kc) KL.length (KL.map (·.1))) := by rw [hw10]; exact HK.out.own
          have HKK : Hid (∀ q ∈ KL, KeyAt w10 q.1 q.2) := fun q hq => by rw [hw10]; exact (HK.out.keys q hq).here HK.out.low
          have HB10 : Hid (Below w8.heap.size w8 w10) := by rw [hw10]; exact HK.out.low
          have hkl : KL.length ≤ 140737488355330 := by have := HLN.out; omega
          rw [← hw10]
          clear hw10 HK HLN hz hlt hj
          have hw8 : w.heap.size ≤ w8.heap.size := HB8.out.size
          have HF10 : Hid (ListAt w10.heap.size w10 (.slice af F.length cf) F) := HF8.out.here HB10.out
          have HG10 : Hid (ListAt w10.heap.size w10 (.slice ag G.length cg) G) := HG8.out.here HB10.out
          have HH10 : Hid (ListAt w10.heap.size w10 (.slice ah H.length ch) H) := HHL.out.here HB10.out
          have HX10 : Hid (EBox w10 w3.heap.size (.slice a1 ye.k.length c1) (.slice a2 ye.v.length c2)) := HX8.out.here HB10.out
          have HR10 : Hid (Box w10 (w3.heap.size + 1) (.slice b1 r.lo.length d1) (.slice b2 r.hi.length d2) (.bool r.all)) := HR8.out.here HB10.out
          have HE10 : Hid (It.Ok w10.heap.size w10 ⟨.slice a1 ye.k.length c1, .slice a2 ye.v.length c2, ye⟩) := (HE.out.here HB8.out).here HB10.out
          have HRA : Hid (RangeAt w10 (.agg #[.slice b1 r.lo.length d1, .slice b2 r.hi.length d2, .bool r.all]) r) := (HRG.out w8 HB8.out).here HB10.out
          have HBT : Hid (∀ W', Below w10.heap.size w10 W' → Below w.heap.size w W') := fun W' hb => (HB8.out.trans (HB10.out.mono hw8)).trans (hb.mono (Nat.le_trans hw8 HB10.out.size))
          have hgl := HG10.out.short
          go_loopw [13] (fun u wx => ∃ i : Nat, i ≤ KL.length ∧ u = .int .i64 i ∧ Below w10.heap.size w10 wx) (fun u _ => KL.length - (intOf u).toNat)
          case atStart => exact ⟨0, by omega, rfl, Below.refl _ _⟩
          case round =>
            obtain ⟨i, hi, rfl, hbe⟩ := hrel
            have HBE : Hid (Below w10.heap.size w10 wr) := hbe
            clear hbe
            by_cases hlt2 : i < KL.length
            · have hz : (i : Int) < (KL.length : Int) := by omega
              obtain ⟨⟨vv, kk⟩, hq⟩ : ∃ q, KL[i]? = some q := ⟨_, List.getElem?_eq_getElem hlt2⟩
              have hka := (HKK.out _ (List.mem_of_getElem? hq)).here HBE.out
              obtain ⟨b5, d5, e5⟩ := hka.in.form
              simp only at hka e5
              subst e5
              obtain ⟨gk, ck, e6, kc0⟩ := own_cell (i := i) (own_same HKO.out fun k _ hl => HBE.out.block k hl) (u := .slice b5 kk.length d5) (by rw [List.getElem?_map, hq]; rfl)
              cases e6
              have HKA : Hid (KeyAt wr (.slice b5 kk.length d5) kk) := hka
              clear hq hka
              have HV1 := value_any (HF10.out.here HBE.out) HKA.out
              go_wp2_with fail
              refine HV1.mono ?_
              rintro e wA ⟨rfl, qA, rfl⟩
              obtain ⟨W1, hW1⟩ : ∃ W1, W1 = wr.drewN qA := ⟨_, rfl⟩
              have HBE1 : Hid (Below w10.heap.size w10 W1) := by rw [hW1]; exact below_draws HBE.out _
              have HKA1 : Hid (KeyAt W1 (.slice b5 kk.length d5) kk) := by rw [hW1]; exact HKA.out.draws _
              have kc1 : W1.cell? ⟨gk, i, none⟩ = some (.slice b5 kk.length d5) := by rw [hW1]; exact kc0
              rw [← hW1]
              clear hW1 HV1 kc0 HKA HBE
              obtain ⟨x0, x1⟩ := (HX10.out.here HBE1.out).cells
              have e1 : ∀ q, Sem.run Try.prog (convert 23 9 (.slice b5 kk.length d5)) (W1.drewN q) = .ok (.string (strB kk)) (W1.drewN q) := fun q => conv_key (HKA1.out.draws q)
              have e2 : ∀ q, Sem.run Try.prog (convert 23 9 (.slice a1 ye.k.length c1)) (W1.drewN q) = .ok (.string (strB ye.k)) (W1.drewN q) := fun q => conv_key (((HE10.out.here HBE1.out).k.at (Nat.le_refl _)).draws q)
              have s1 := strB_eq kk ye.k
              generalize hSK : strB kk = SK at e1 s1
              generalize strB ye.k = SY at e2 s1
              go_wp2_with fail
              go_cut [101] (fun s wx => s = .bool (decide (kk = ye.k)) ∧ ∃ n, wx = W1.drewN n)
              case first =>
                go_quiet (fail)
                go_wp2
                go_meet
                exact ⟨by first | rfl | rw [s1], _, rfl⟩
              case rest =>
                obtain ⟨rfl, n1, rfl⟩ := hcut
                obtain ⟨W2, hW2⟩ : ∃ W2, W2 = W1.drewN n1 := ⟨_, rfl⟩
                have HBE2 : Hid (Below w10.heap.size w10 W2) := by rw [hW2]; exact below_draws HBE1.out _
                have HKA2 : Hid (KeyAt W2 (.slice b5 kk.length d5) kk) := by rw [hW2]; exact HKA1.out.draws _
                have kc2 : W2.cell? ⟨gk, i, none⟩ = some (.slice b5 kk.length d5) := by rw [hW2]; exact kc1
                obtain ⟨x2, x3⟩ := (HX10.out.here HBE2.out).cells
                rw [← hW2]
                clear hW2 e1 e2 s1 x0 x1
                have HFI := find_any (HG10.out.here HBE2.out) HKA2.out HGR.out
                by_cases hky : kk = ye.k
                · as_aux_lemma =>
                    rw [decide_eq_true hky]
                    have HVG : Hid (valE (G.map It.e) kk = some ye.v) := by rw [Hid, HGV.out, if_pos hky]
                    obtain ⟨uu, huu⟩ : ∃ uu, uu = ye.v := ⟨_, rfl⟩
                    have v9 : Sem.run Try.prog (convert 23 9 (.slice a2 ye.v.length c2)) W2 = .ok (.string (strB uu)) W2 := by rw [huu]; exact conv_key ((HE10.out.here HBE2.out).v.at (Nat.le_refl _))
                    rw [← huu] at HVG
                    have HUU : Hid (uu = ye.v) := huu
                    clear huu
                    clear hky
                    go_wp2_with fail
                    clear v9
                    refine HFI.mono ?_
                    rintro e W3 ⟨p, b', rfl, hfa, hb3⟩
                    obtain ⟨hvs, hvi⟩ := val_find HGR.out hfa
                    rw [HVG.out] at hvs hvi
                    have HBE3 : Hid (Below w10.heap.size w10 W3) := HBE2.out.trans (hb3.mono HBE2.out.size)
                    have HKA3 : Hid (KeyAt W3 (.slice b5 kk.length d5) kk) := HKA2.out.here hb3
                    have kc3 : W3.cell? ⟨gk, i, none⟩ = some (.slice b5 kk.length d5) := cell_stays hb3 kc2
                    have hple : p ≤ G.length := by have := hfa.le; simpa using this
                    clear hb3 HFI kc2
                    obtain rfl : b' = true := by simpa using hvs.symm
                    obtain ⟨xe, hxe, hxu⟩ := hvi rfl
                    obtain ⟨it, hit, hite⟩ : ∃ it, G[p]? = some it ∧ it.e = xe := by
                      rw [List.getElem?_map] at hxe
                      cases hg : G[p]? with
                      | none => rw [hg] at hxe; cases hxe
                      | some it => rw [hg] at hxe; exact ⟨it, rfl, by simpa using hxe⟩
                    have huv : xe.v = uu := by simpa using hxu.symm
                    have hpl : p < G.length := (List.getElem?_eq_some_iff.1 hit).1
                    obtain ⟨gg, og, _, e7, m0, m1⟩ := (HG10.out.here HBE3.out).cells p it hit
                    cases e7
                    have heo := (HG10.out.here HBE3.out).ok it (List.mem_of_getElem? hit)
                    have v0 : ∀ q, Sem.run Try.prog (convert 23 9 it.v2) (W3.drewN q) = .ok (.string (strB uu)) (W3.drewN q) := fun q => by
                      have := conv_key ((heo.v.at (Nat.le_refl _)).draws q)
                      rw [hite, huv] at this
                      exact this
                    have v00 : Sem.run Try.prog (convert 23 9 it.v2) W3 = .ok (.string (strB uu)) W3 := v0 0
                    have g1 : ¬ (G.length : Int) < (p : Int) := by omega
                    have g2 : ((p : Int) == (G.length : Int)) = false := by rw [beq_eq_false_iff_ne]; omega
                    have g3 : (p : Int) < (G.length : Int) := by omega
                    have g4 : ((strB uu).toList != (strB uu).toList) = false := by simp
                    clear hvs hvi hxe hxu hite huv hit heo hfa
                    go_wp2_with fail
                    clear v0 v00 m0 m1 g1 g2 g3
                    have q1 := strB_lt kk r.lo
                    have q2 := strB_lt kk r.hi
                    have v1 : ∀ q, Sem.run Try.prog (convert 23 9 (.slice b5 kk.length d5)) (W3.drewN q) = .ok (.string (strB kk)) (W3.drewN q) := fun q => conv_key (HKA3.out.draws q)
                    have v2 : ∀ q, Sem.run Try.prog (convert 23 9 (.slice b1 r.lo.length d1)) (W3.drewN q) = .ok (.string (strB r.lo)) (W3.drewN q) := fun q => by
                      obtain ⟨y1, y2, e, h1, _⟩ := (HRA.out.here HBE3.out).is
                      cases e
                      exact conv_key (h1.draws q)
                    have v3 : ∀ q, Sem.run Try.prog (convert 23 9 (.slice b2 r.hi.length d2)) (W3.drewN q) = .ok (.string (strB r.hi)) (W3.drewN q) := fun q => by
                      obtain ⟨y1, y2, e, _, h2⟩ := (HRA.out.here HBE3.out).is
                      cases e
                      exact conv_key (h2.draws q)
                    obtain ⟨z0, z1, z2⟩ := (HR10.out.here HBE3.out).cells
                    generalize strB kk = SK at v1 q1 q2
                    generalize strB r.lo = SL at v2 q1
                    generalize strB r.hi = SH at v3 q2
                    go_cut [18] (fun s wx => s = .bool (r.has kk) ∧ ∃ n, wx = W3.drewN n)
                    case first =>
                      have HHAS : Hid (r.has kk = (decide (r.lo ≤ kk) && (r.all || decide (kk < r.hi)))) := rfl
                      by_cases h1 : kk < r.lo
                      · rw [decide_eq_true h1] at q1
                        have HN : Hid (r.has kk = false) := by rw [Hid, HHAS.out, decide_eq_false (key_lt_not h1)]; rfl
                        clear h1
                        go_quiet (fail)
                        go_wp2
                        go_meet
                        exact ⟨by rw [HN.out], _, rfl⟩
                      · rw [decide_eq_false h1] at q1
                        have HLE : Hid (decide (r.lo ≤ kk) = true) := by rw [Hid, decide_eq_true_eq]; exact key_not_lt h1
                        by_cases hal : r.all = true
                        · rw [hal] at z2
                          have HN : Hid (r.has kk = true) := by rw [Hid, HHAS.out, HLE.out, hal]; rfl
                          clear h1 hal
                          go_quiet (fail)
                          go_wp2
                          go_meet
                          exact ⟨by rw [HN.out], _, rfl⟩
                        · have hal' : r.all = false := by simpa using hal
                          rw [hal'] at z2
                          have HN : Hid (r.has kk = decide (kk < r.hi)) := by rw [Hid, HHAS.out, HLE.out, hal']; simp
                          clear h1 hal hal'
                          go_quiet (fail)
                          go_wp2
                          go_meet
                          exact ⟨by rw [HN.out], _, rfl⟩
                    case rest =>
                      obtain ⟨rfl, n3, rfl⟩ := hcut
                      obtain ⟨W4, hW4⟩ : ∃ W4, W4 = W3.drewN n3 := ⟨_, rfl⟩
                      have HBE4 : Hid (Below w10.heap.size w10 W4) := by rw [hW4]; exact below_draws HBE3.out _
                      have HKA4 : Hid (KeyAt W4 (.slice b5 kk.length d5) kk) := by rw [hW4]; exact HKA3.out.draws _
                      have kc4 : W4.cell? ⟨gk, i, none⟩ = some (.slice b5 kk.length d5) := by rw [hW4]; exact kc3
                      rw [← hW4]
                      clear hW4 v1 v2 v3 q1 q2 z0 z1 z2
                      have HV4 := value_any (HH10.out.here HBE4.out) HKA4.out
                      rw [HHV.out kk] at HV4
                      cases hhas : r.has kk with
                      | true =>
                        rw [hhas] at HV4
                        go_wp2_with fail
                        refine HV4.mono ?_
                        rintro e W5 ⟨rfl, q5, rfl⟩
                        go_wp2
                        exact ⟨⟨i + 1, by omega, by go_num, below_draws HBE4.out _⟩, by simp [intOf]; omega⟩
                      | false =>
                        rw [hhas, if_neg (by simp), HVG.out] at HV4
                        go_wp2_with fail
                        refine HV4.mono ?_
                        rintro e W5 ⟨rfl, q5, rfl⟩
                        go_wp2
                        exact ⟨⟨i + 1, by omega, by go_num, below_draws HBE4.out _⟩, by simp [intOf]; omega⟩
                · rw [decide_eq_false hky]
                  have HVF : Hid (valE (G.map It.e) kk = valE (F.map It.e) kk) := by rw [Hid, HGV.out, if_neg hky]
                  clear hky
                  rw [← HVF.out]
                  cases hV : valE (G.map It.e) kk with
                  | some uu =>
                    as_aux_lemma =>
                      have HVG : Hid (valE (G.map It.e) kk = some uu) := hV
                      clear hV
                      go_wp2_with fail
                      refine HFI.mono ?_
                      rintro e W3 ⟨p, b', rfl, hfa, hb3⟩
                      obtain ⟨hvs, hvi⟩ := val_find HGR.out hfa
                      rw [HVG.out] at hvs hvi
                      have HBE3 : Hid (Below w10.heap.size w10 W3) := HBE2.out.trans (hb3.mono HBE2.out.size)
                      have HKA3 : Hid (KeyAt W3 (.slice b5 kk.length d5) kk) := HKA2.out.here hb3
                      have kc3 : W3.cell? ⟨gk, i, none⟩ = some (.slice b5 kk.length d5) := cell_stays hb3 kc2
                      have hple : p ≤ G.length := by have := hfa.le; simpa using this
                      clear hb3 HFI kc2
                      obtain rfl : b' = true := by simpa using hvs.symm
                      obtain ⟨xe, hxe, hxu⟩ := hvi rfl
                      obtain ⟨it, hit, hite⟩ : ∃ it, G[p]? = some it ∧ it.e = xe := by
                        rw [List.getElem?_map] at hxe
                        cases hg : G[p]? with
                        | none => rw [hg] at hxe; cases hxe
                        | some it => rw [hg] at hxe; exact ⟨it, rfl, by simpa using hxe⟩
                      have huv : xe.v = uu := by simpa using hxu.symm
                      have hpl : p < G.length := (List.getElem?_eq_some_iff.1 hit).1
                      obtain ⟨gg, og, _, e7, m0, m1⟩ := (HG10.out.here HBE3.out).cells p it hit
                      cases e7
                      have heo := (HG10.out.here HBE3.out).ok it (List.mem_of_getElem? hit)
                      have v0 : ∀ q, Sem.run Try.prog (convert 23 9 it.v2) (W3.drewN q) = .ok (.string (strB uu)) (W3.drewN q) := fun q => by
                        have := conv_key ((heo.v.at (Nat.le_refl _)).draws q)
                        rw [hite, huv] at this
                        exact this
                      have v00 : Sem.run Try.prog (convert 23 9 it.v2) W3 = .ok (.string (strB uu)) W3 := v0 0
                      have g1 : ¬ (G.length : Int) < (p : Int) := by omega
                      have g2 : ((p : Int) == (G.length : Int)) = false := by rw [beq_eq_false_iff_ne]; omega
                      have g3 : (p : Int) < (G.length : Int) := by omega
                      have g4 : ((strB uu).toList != (strB uu).toList) = false := by simp
                      clear hvs hvi hxe hxu hite huv hit heo hfa
                      go_wp2_with fail
                      clear v0 v00 m0 m1 g1 g2 g3
                      have q1 := strB_lt kk r.lo
                      have q2 := strB_lt kk r.hi
                      have v1 : ∀ q, Sem.run Try.prog (convert 23 9 (.slice b5 kk.length d5)) (W3.drewN q) = .ok (.string (strB kk)) (W3.drewN q) := fun q => conv_key (HKA3.out.draws q)
                      have v2 : ∀ q, Sem.run Try.prog (convert 23 9 (.slice b1 r.lo.length d1)) (W3.drewN q) = .ok (.string (strB r.lo)) (W3.drewN q) := fun q => by
                        obtain ⟨y1, y2, e, h1, _⟩ := (HRA.out.here HBE3.out).is
                        cases e
                        exact conv_key (h1.draws q)
                      have v3 : ∀ q, Sem.run Try.prog (convert 23 9 (.slice b2 r.hi.length d2)) (W3.drewN q) = .ok (.string (strB r.hi)) (W3.drewN q) := fun q => by
                        obtain ⟨y1, y2, e, _, h2⟩ := (HRA.out.here HBE3.out).is
                        cases e
                        exact conv_key (h2.draws q)
                      obtain ⟨z0, z1, z2⟩ := (HR10.out.here HBE3.out).cells
                      generalize strB kk = SK at v1 q1 q2
                      generalize strB r.lo = SL at v2 q1
                      generalize strB r.hi = SH at v3 q2
                      go_cut [18] (fun s wx => s = .bool (r.has kk) ∧ ∃ n, wx = W3.drewN n)
                      case first =>
                        have HHAS : Hid (r.has kk = (decide (r.lo ≤ kk) && (r.all || decide (kk < r.hi)))) := rfl
                        by_cases h1 : kk < r.lo
                        · rw [decide_eq_true h1] at q1
                          have HN : Hid (r.has kk = false) := by rw [Hid, HHAS.out, decide_eq_false (key_lt_not h1)]; rfl
                          clear h1
                          go_quiet (fail)
                          go_wp2
                          go_meet
                          exact ⟨by rw [HN.out], _, rfl⟩
                        · rw [decide_eq_false h1] at q1
                          have HLE : Hid (decide (r.lo ≤ kk) = true) := by rw [Hid, decide_eq_true_eq]; exact key_not_lt h1
                          by_cases hal : r.all = true
                          · rw [hal] at z2
                            have HN : Hid (r.has kk = true) := by rw [Hid, HHAS.out, HLE.out, hal]; rfl
                            clear h1 hal
                            go_quiet (fail)
                            go_wp2
                            go_meet
                            exact ⟨by rw [HN.out], _, rfl⟩
                          · have hal' : r.all = false := by simpa using hal
                            rw [hal'] at z2
                            have HN : Hid (r.has kk = decide (kk < r.hi)) := by rw [Hid, HHAS.out, HLE.out, hal']; simp
                            clear h1 hal hal'
                            go_quiet (fail)
                            go_wp2
                            go_meet
                            exact ⟨by rw [HN.out], _, rfl⟩
                      case rest =>
                        obtain ⟨rfl, n3, rfl⟩ := hcut
                        obtain ⟨W4, hW4⟩ : ∃ W4, W4 = W3.drewN n3 := ⟨_, rfl⟩
                        have HBE4 : Hid (Below w10.heap.size w10 W4) := by rw [hW4]; exact below_draws HBE3.out _
                        have HKA4 : Hid (KeyAt W4 (.slice b5 kk.length d5) kk) := by rw [hW4]; exact HKA3.out.draws _
                        have kc4 : W4.cell? ⟨gk, i, none⟩ = some (.slice b5 kk.length d5) := by rw [hW4]; exact kc3
                        rw [← hW4]
                        clear hW4 v1 v2 v3 q1 q2 z0 z1 z2
                        have HV4 := value_any (HH10.out.here HBE4.out) HKA4.out
                        rw [HHV.out kk] at HV4
                        cases hhas : r.has kk with
                        | true =>
                          rw [hhas] at HV4
                          go_wp2_with fail
                          refine HV4.mono ?_
                          rintro e W5 ⟨rfl, q5, rfl⟩
                          go_wp2
                          exact ⟨⟨i + 1, by omega, by go_num, below_draws HBE4.out _⟩, by simp [intOf]; omega⟩
                        | false =>
                          rw [hhas, if_neg (by simp), HVG.out] at HV4
                          go_wp2_with fail
                          refine HV4.mono ?_
                          rintro e W5 ⟨rfl, q5, rfl⟩
                          go_wp2
                          exact ⟨⟨i + 1, by omega, by go_num, below_draws HBE4.out _⟩, by simp [intOf]; omega⟩
                  | none =>
                    as_aux_lemma =>
                      have HVG : Hid (valE (G.map It.e) kk = none) := hV
                      clear hV
                      go_wp2_with fail
                      refine HFI.mono ?_
                      rintro e W3 ⟨p, b', rfl, hfa, hb3⟩
                      obtain ⟨hvs, hvi⟩ := val_find HGR.out hfa
                      rw [HVG.out] at hvs hvi
                      have HBE3 : Hid (Below w10.heap.size w10 W3) := HBE2.out.trans (hb3.mono HBE2.out.size)
                      have HKA3 : Hid (KeyAt W3 (.slice b5 kk.length d5) kk) := HKA2.out.here hb3
                      have kc3 : W3.cell? ⟨gk, i, none⟩ = some (.slice b5 kk.length d5) := cell_stays hb3 kc2
                      have hple : p ≤ G.length := by have := hfa.le; simpa using this
                      clear hb3 HFI kc2
                      obtain rfl : b' = false := by simpa using hvs.symm
                      have g1 : ¬ (G.length : Int) < (p : Int) := by omega
                      clear hvs hvi hfa
                      go_wp2_with fail
                      have q1 := strB_lt kk r.lo
                      have q2 := strB_lt kk r.hi
                      have v1 : ∀ q, Sem.run Try.prog (convert 23 9 (.slice b5 kk.length d5)) (W3.drewN q) = .ok (.string (strB kk)) (W3.drewN q) := fun q => conv_key (HKA3.out.draws q)
                      have v2 : ∀ q, Sem.run Try.prog (convert 23 9 (.slice b1 r.lo.length d1)) (W3.drewN q) = .ok (.string (strB r.lo)) (W3.drewN q) := fun q => by
                        obtain ⟨y1, y2, e, h1, _⟩ := (HRA.out.here HBE3.out).is
                        cases e
                        exact conv_key (h1.draws q)
                      have v3 : ∀ q, Sem.run Try.prog (convert 23 9 (.slice b2 r.hi.length d2)) (W3.drewN q) = .ok (.string (strB r.hi)) (W3.drewN q) := fun q => by
                        obtain ⟨y1, y2, e, _, h2⟩ := (HRA.out.here HBE3.out).is
                        cases e
                        exact conv_key (h2.draws q)
                      obtain ⟨z0, z1, z2⟩ := (HR10.out.here HBE3.out).cells
                      generalize strB kk = SK at v1 q1 q2
                      generalize strB r.lo = SL at v2 q1
                      generalize strB r.hi = SH at v3 q2
                      go_cut [18] (fun s wx => s = .bool (r.has kk) ∧ ∃ n, wx = W3.drewN n)
                      case first =>
                        have HHAS : Hid (r.has kk = (decide (r.lo ≤ kk) && (r.all || decide (kk < r.hi)))) := rfl
                        by_cases h1 : kk < r.lo
                        · rw [decide_eq_true h1] at q1
                          have HN : Hid (r.has kk = false) := by rw [Hid, HHAS.out, decide_eq_false (key_lt_not h1)]; rfl
                          clear h1
                          go_quiet (fail)
                          go_wp2
                          go_meet
                          exact ⟨by rw [HN.out], _, rfl⟩
                        · rw [decide_eq_false h1] at q1
                          have HLE : Hid (decide (r.lo ≤ kk) = true) := by rw [Hid, decide_eq_true_eq]; exact key_not_lt h1
                          by_cases hal : r.all = true
                          · rw [hal] at z2
                            have HN : Hid (r.has kk = true) := by rw [Hid, HHAS.out, HLE.out, hal]; rfl
                            clear h1 hal
                            go_quiet (fail)
                            go_wp2
                            go_meet
                            exact ⟨by rw [HN.out], _, rfl⟩
                          · have hal' : r.all = false := by simpa using hal
                            rw [hal'] at z2
                            have HN : Hid (r.has kk = decide (kk < r.hi)) := by rw [Hid, HHAS.out, HLE.out, hal']; simp
                            clear h1 hal hal'
                            go_quiet (fail)
                            go_wp2
                            go_meet
                            exact ⟨by rw [HN.out], _, rfl⟩
                      case rest =>
                        obtain ⟨rfl, n3, rfl⟩ := hcut
                        obtain ⟨W4, hW4⟩ : ∃ W4, W4 = W3.drewN n3 := ⟨_, rfl⟩
                        have HBE4 : Hid (Below w10.heap.size w10 W4) := by rw [hW4]; exact below_draws HBE3.out _
                        have HKA4 : Hid (KeyAt W4 (.slice b5 kk.length d5) kk) := by rw [hW4]; exact HKA3.out.draws _
                        have kc4 : W4.cell? ⟨gk, i, none⟩ = some (.slice b5 kk.length d5) := by rw [hW4]; exact kc3
                        rw [← hW4]
                        clear hW4 v1 v2 v3 q1 q2 z0 z1 z2
                        have HV4 := value_any (HH10.out.here HBE4.out) HKA4.out
                        rw [HHV.out kk] at HV4
                        rw [HVG.out, ite_self] at HV4
                        cases hhas : r.has kk with
                        | true =>
                          go_wp2_with fail
                          refine HV4.mono ?_
                          rintro e W5 ⟨rfl, q5, rfl⟩
                          go_wp2
                          exact ⟨⟨i + 1, by omega, by go_num, below_draws HBE4.out _⟩, by simp [intOf]; omega⟩
                        | false =>
                          go_wp2_with fail
                          refine HV4.mono ?_
                          rintro e W5 ⟨rfl, q5, rfl⟩
                          go_wp2
                          exact ⟨⟨i + 1, by omega, by go_num, below_draws HBE4.out _⟩, by simp [intOf]; omega⟩
            · have hz : ¬ (i : Int) < (KL.length : Int) := by omega
              have HRI := risen_any (HG10.out.here HBE.out)
              go_wp2_with fail
              refine HRI.mono ?_
              rintro e W2 ⟨vo2, F2, rfl, hri2⟩
              have hl2 : F2.length = G.length := by
                have := congrArg List.length hri2.is
                rw [List.take_of_length_le (by simp), risenE_self HGR.out] at this
                simpa using this
              obtain ⟨o2, cc2, q2⟩ := own_form' hri2.own
              subst q2
              have HB2 : Hid (Below w10.heap.size w10 W2) := HBE.out.trans (hri2.low.mono HBE.out.size)
              have HRI2 := risen_any (HH10.out.here HB2.out)
              rw [hl2]
              clear hri2 HRI hl2
              go_wp2_with fail
              refine HRI2.mono ?_
              rintro e W3 ⟨vo3, F3, rfl, hri3⟩
              have hl3 : F3.length = H.length := by
                have := congrArg List.length hri3.is
                rw [List.take_of_length_le (by simp), risenE_self HHR.out] at this
                simpa using this
              obtain ⟨o3, cc3, q3⟩ := own_form' hri3.own
              subst q3
              have HB3 : Hid (Below w10.heap.size w10 W3) := HB2.out.trans (hri3.low.mono HB2.out.size)
              rw [hl3]
              clear hri3 HRI2 hl3
              go_wp2
              go_ret
              exact ⟨by first | rfl | simp, HBT.out W3 HB3.out⟩
end Go.Proofs.Ytgifnaahahfhbab
