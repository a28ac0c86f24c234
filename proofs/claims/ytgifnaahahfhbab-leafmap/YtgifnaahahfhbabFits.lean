/- LeafFits: the walk. -/
import Derived.Test.YtgifnaahahfhbabFitsPure
import Derived.Test.YtgifnaahahfhbabAskArgs
namespace Go.Proofs.Ytgifnaahahfhbab
open Go.RowKit

/-- Keys and values, and 6 for each entry. -/
def sumE (l : List En) : Nat := 2 + (l.map fun e => 6 + e.k.length + e.v.length).sum
theorem sumE_take {l : List En} {i : Nat} {e : En} (h : l[i]? = some e) : sumE (l.take (i + 1)) = sumE (l.take i) + (6 + e.k.length + e.v.length) := by
  unfold sumE
  rw [List.take_add_one, h]
  simp
  omega
theorem sumE_le (l : List En) (i : Nat) : sumE (l.take i) ≤ 2 + 6 * weightE l := by
  have h1 := weightE_take l i
  have h2 : ∀ m : List En, (m.map fun e => 6 + e.k.length + e.v.length).sum ≤ 6 * weightE m := by
    intro m
    induction m with
    | nil => simp
    | cons e r ih => simp only [List.map_cons, List.sum_cons, weightE]; omega
  have h3 := h2 (l.take i)
  unfold sumE
  omega

theorem wrap_little {j : Nat} (h : j ≤ 140737488355328000) : IntKind.i64.wrap (j : Int) = (j : Int) := by
  have : (j : Int) ≤ 140737488355328000 := by omega
  simp [IntKind.wrap, IntKind.bits, IntKind.signed]; omega
theorem weightE_filter (p : En → Bool) (l : List En) : weightE (l.filter p) ≤ weightE l := by
  induction l with
  | nil => simp
  | cons e r ih => rw [List.filter_cons]; split <;> simp only [weightE] <;> omega
theorem weightE_append (l m : List En) : weightE (l ++ m) = weightE l + weightE m := by
  induction l with
  | nil => simp [weightE]
  | cons e r ih => simp only [List.cons_append, weightE, ih]; omega
theorem weightE_put (l : List En) (e : En) (p : Nat) (b : Bool) : weightE (putE l e p b) ≤ weightE l + weightE [e] := by
  obtain ⟨t, ht⟩ : ∃ t, t = if b then p + 1 else p := ⟨_, rfl⟩
  have hpt : p ≤ t := by rw [ht]; split <;> omega
  have h1 : weightE (l.take t) + weightE (l.drop t) = weightE l := by rw [← weightE_append, List.take_append_drop]
  have h2 : weightE (l.take p) ≤ weightE (l.take t) := by
    have : l.take p = (l.take t).take p := by rw [List.take_take, Nat.min_eq_left hpt]
    rw [this]; exact weightE_take _ _
  unfold putE
  rw [← ht, weightE_append, weightE_append]
  omega
theorem put_length {l : List En} {e : En} {p : Nat} {b : Bool} : (putE l e p b).length ≤ l.length + 1 := by
  unfold putE
  simp only [List.length_append, List.length_take, List.length_drop, List.length_singleton]
  split <;> omega

set_option maxHeartbeats 3200000 in
set_option maxRecDepth 100000 in
theorem fits_walk {w : World} {v : Value} {x : Asked} (h : v = .agg x.cells ∧ x.Ok w) :
    Calls Try.prog 5 #[v] w fun e w' => e = .returned (.bool true) ∧ Below w.heap.size w w' := by
  obtain ⟨rfl, hx⟩ := h
  obtain ⟨sz, pos, vl, L, e, r1, r2, r, vb, b, vm, more, vk, key⟩ := x
  obtain ⟨hsz, hpos, hL, he, hr1, hr2, _, _, _⟩ := hx
  simp only at hsz hL he hr1 hr2
  have hsz2 := wf_i64 hsz
  have hsh := hL.short
  obtain ⟨aL, cL, rfl⟩ := hL.form
  obtain ⟨a1, c1, f1⟩ := he.k.form
  obtain ⟨a2, c2, f2⟩ := he.v.form
  obtain ⟨e1, e2, ye⟩ := e
  simp only at f1 f2
  subst f1 f2
  obtain ⟨b1, d1, rfl⟩ := hr1.in.form
  obtain ⟨b2, d2, rfl⟩ := hr2.in.form
  have HL : Hid (ListAt w.heap.size w (.slice aL L.length cL) L) := hL
  have HE : Hid (It.Ok w.heap.size w ⟨.slice a1 ye.k.length c1, .slice a2 ye.v.length c2, ye⟩) := he
  have HRG : Hid (∀ w', Below w.heap.size w w' → RangeAt w' (.agg #[.slice b1 r.lo.length d1, .slice b2 r.hi.length d2, .bool r.all]) r) := fun w' hb => ⟨_, _, rfl, hr1.here hb, hr2.here hb⟩
  obtain ⟨W0, hW0⟩ : ∃ W0, W0 = w.alloc (.cells (Asked.cells ⟨sz, pos, .slice aL L.length cL, L, ⟨.slice a1 ye.k.length c1, .slice a2 ye.v.length c2, ye⟩, .slice b1 r.lo.length d1, .slice b2 r.hi.length d2, r, vb, b, vm, more, vk, key⟩) 29) := ⟨_, rfl⟩
  have HB0 : Hid (Below w.heap.size w W0) := by rw [hW0]; exact below_new _ _
  have HA0 : Hid (ABox W0 w.heap.size ⟨sz, pos, .slice aL L.length cL, L, ⟨.slice a1 ye.k.length c1, .slice a2 ye.v.length c2, ye⟩, .slice b1 r.lo.length d1, .slice b2 r.hi.length d2, r, vb, b, vm, more, vk, key⟩) := by rw [hW0]; exact ⟨heap_alloc_last _ _⟩
  clear hL he hr1 hr2 hsz hpos
  go_enter Try.func5, Try.ntmps5
  go_wp2_with fail
  rw [← hW0]
  clear hW0
  refine (shown_any W0).mono ?_
  rintro e1 w1 ⟨rfl, hb1⟩
  have HB1 : Hid (Below w.heap.size w w1) := HB0.out.trans (hb1.mono HB0.out.size)
  have hA1 := HA0.out.here hb1
  have HA1 : Hid _ := hA1
  have t0 := hA1.cell 0 (.int .i64 sz) rfl
  clear hb1 hA1
  go_wp2_with fail
  refine (sizes_any w1 sz hsz2).mono ?_
  rintro e1 w2 ⟨⟨z, hz, rfl⟩, q2, rfl⟩
  have hzz := sized_le hz
  have HZ : Hid (Sized z) := hz
  clear hz t0
  obtain ⟨w3, hw3⟩ : ∃ w3, w3 = w1.drewN q2 := ⟨_, rfl⟩
  rw [← hw3]
  have hA3 : ABox w3 w.heap.size ⟨sz, pos, .slice aL L.length cL, L, ⟨.slice a1 ye.k.length c1, .slice a2 ye.v.length c2, ye⟩, .slice b1 r.lo.length d1, .slice b2 r.hi.length d2, r, vb, b, vm, more, vk, key⟩ := by rw [hw3]; exact ⟨HA1.out.row⟩
  have HB3 : Hid (Below w.heap.size w w3) := by rw [hw3]; exact below_draws HB1.out _
  clear hw3
  have t2 := hA3.cell 2 (.slice aL L.length cL) rfl
  have t3 := hA3.cell 3 (.slice a1 ye.k.length c1) rfl
  have t4 := hA3.cell 4 (.slice a2 ye.v.length c2) rfl
  obtain ⟨W4, hW4⟩ : ∃ W4, W4 = w3.alloc (.cells #[.slice a1 ye.k.length c1, .slice a2 ye.v.length c2] 25) := ⟨_, rfl⟩
  have HB34 : Hid (Below w3.heap.size w3 W4) := by rw [hW4]; exact below_new _ _
  have HX4 : Hid (EBox W4 w3.heap.size (.slice a1 ye.k.length c1) (.slice a2 ye.v.length c2)) := by rw [hW4]; exact EBox.new _ _ _
  have hA4 := hA3.here HB34.out
  have u5 : (w3.alloc (.cells #[.slice a1 ye.k.length c1, .slice a2 ye.v.length c2] 25)).cell? ⟨w.heap.size, 5, none⟩ = some (.slice b1 r.lo.length d1) := by rw [← hW4]; exact hA4.cell 5 _ rfl
  have u6 : (w3.alloc (.cells #[.slice a1 ye.k.length c1, .slice a2 ye.v.length c2] 25)).cell? ⟨w.heap.size, 6, none⟩ = some (.slice b2 r.hi.length d2) := by rw [← hW4]; exact hA4.cell 6 _ rfl
  have u7 : (w3.alloc (.cells #[.slice a1 ye.k.length c1, .slice a2 ye.v.length c2] 25)).cell? ⟨w.heap.size, 7, none⟩ = some (.bool r.all) := by rw [← hW4]; exact hA4.cell 7 _ rfl
  obtain ⟨W5, hW5⟩ : ∃ W5, W5 = W4.alloc (.cells #[.slice b1 r.lo.length d1, .slice b2 r.hi.length d2, .bool r.all] 27) := ⟨_, rfl⟩
  have HB45 : Hid (Below W4.heap.size W4 W5) := by rw [hW5]; exact below_new _ _
  have HR5 : Hid (Box W5 W4.heap.size (.slice b1 r.lo.length d1) (.slice b2 r.hi.length d2) (.bool r.all)) := by rw [hW5]; exact Box.new _ _ _ _
  have HX5 : Hid (EBox W5 w3.heap.size (.slice a1 ye.k.length c1) (.slice a2 ye.v.length c2)) := HX4.out.here HB45.out
  have HB5 : Hid (Below w.heap.size w W5) := (HB3.out.trans (HB34.out.mono HB3.out.size)).trans (HB45.out.mono (Nat.le_trans HB3.out.size HB34.out.size))
  have hs4 : W4.heap.size = w3.heap.size + 1 := by rw [hW4]; simp
  rw [hs4] at HR5
  go_wp2_with fail
  rw [← hW4, ← hW5]
  clear hW5 hW4 u5 u6 u7 t2 t3 t4 hA3 hA4
  have hwz : w.heap.size ≤ W5.heap.size := HB5.out.size
  obtain ⟨k0, k1⟩ := HX5.out.cells
  have HY5 : Hid (∀ w', Below W5.heap.size W5 w' → It.Ok w'.heap.size w' ⟨.slice a1 ye.k.length c1, .slice a2 ye.v.length c2, ye⟩) := fun w' hb => (HE.out.here HB5.out).here hb
  have HWL : Hid (∀ W, Below W5.heap.size W5 W → Calls Try.prog 8 #[.slice aL L.length cL] W fun e w' => (∃ s : Nat, e = .returned (.int .i64 s) ∧ s ≤ 1000000000000000 ∧ (s ≤ 2147483647 → weightE (L.map It.e) = s)) ∧ ∃ q, w' = W.drewN q) := fun W hb => weight_any (HL.out.here (HB5.out.trans (hb.mono hwz)))
  have HWE : Hid (∀ W0 W, Below W5.heap.size W5 W0 → Below (W0.heap.size + 1) (W0.alloc (.cells #[.slice a1 ye.k.length c1, .slice a2 ye.v.length c2] 25)) W → Calls Try.prog 8 #[.slice (some ⟨W0.heap.size, 0, none⟩) 1 1] W fun e w' => (∃ s : Nat, e = .returned (.int .i64 s) ∧ s ≤ 1000000000000000 ∧ (s ≤ 2147483647 → weightE [ye] = s)) ∧ ∃ q, w' = W.drewN q) := fun W0 W hb hb2 => by
    have q := list_one W0 ⟨.slice a1 ye.k.length c1, .slice a2 ye.v.length c2, ye⟩ (HY5.out W0 hb)
    simp only at q
    refine (weight_any (q.here ?_)).mono ?_
    · simpa using hb2
    · rintro e w' h
      simpa using h
  go_cut [33] (fun s33 wx => (∃ t : Bool, s33 = .bool t ∧ (t = false → weightE (L.map It.e) + weightE [ye] ≤ 2147483647)) ∧ Below W5.heap.size W5 wx)
  case first =>
    go_region_held_law (fun W' => W'.cell? ⟨w3.heap.size, 0, none⟩ = some (.slice a1 ye.k.length c1) ∧ W'.cell? ⟨w3.heap.size, 1, none⟩ = some (.slice a2 ye.v.length c2)) (first | go_keep | (refine ⟨?_, ?_⟩ <;> assumption))
      (first
        | (go_at_call_of 8 (Value.slice aL L.length cL)
           refine (HWL.out _ (by first | exact (Below.refl _ _).drew | exact (Below.refl _ _).drew.alloc (Nat.le_refl _) _)).mono ?_
           rintro e1 w6 ⟨⟨s1, rfl, hs1, hsw1⟩, q6, rfl⟩
           have HW1 : Hid (s1 ≤ 2147483647 → weightE (L.map It.e) = s1) := hsw1
           clear hsw1)
        | (go_at_call 8
           first
             | refine (HWE.out (W5.drewN (1 + q6)) _ (below_draws (Below.refl _ _) _) (Below.refl _ _)).mono ?_
             | refine (HWE.out W5.drew _ ((Below.refl _ _).drew) (by first | exact Below.refl _ _ | exact below_draws (Below.refl _ _) _)).mono ?_
           rintro e1 w7 ⟨⟨s2, rfl, hs2, hsw2⟩, q7, rfl⟩
           have HW2 : Hid (s2 ≤ 2147483647 → weightE [ye] = s2) := hsw2
           clear hsw2))
    all_goals
      go_wp2_with fail
      go_meet
      refine ⟨⟨_, rfl, fun ht => ?_⟩, ?_⟩
      · have hw := wrap_little (j := s1 + s2) (by omega)
        rw [Int.natCast_add] at hw
        rw [hw] at ht
        have ht2 := of_decide_eq_false ht
        rw [HW1.out (by omega), HW2.out (by omega)]
        omega
      · first
          | exact below_draws ((below_draws (Below.refl _ _) _).alloc (Nat.le_refl _) _) _
          | exact below_draws (((Below.refl _ _).drew).alloc (Nat.le_refl _) _) _
  case rest =>
    obtain ⟨⟨t, rfl, ht⟩, hbc⟩ := hcut
    have HT : Hid (t = false → weightE (L.map It.e) + weightE [ye] ≤ 2147483647) := ht
    have HBC : Hid (Below w.heap.size w wc) := HB5.out.trans (hbc.mono hwz)
    have HXC : Hid (EBox wc w3.heap.size (.slice a1 ye.k.length c1) (.slice a2 ye.v.length c2)) := HX5.out.here hbc
    have HRC : Hid (Box wc (w3.heap.size + 1) (.slice b1 r.lo.length d1) (.slice b2 r.hi.length d2) (.bool r.all)) := HR5.out.here hbc
    clear ht hbc HWL HWE k0 k1 HX5 HR5 HY5 HX4
    cases t with
    | true =>
      go_wp2
      go_ret
      exact ⟨rfl, HBC.out⟩
    | false =>
      have hwt : weightE (L.map It.e) + weightE [ye] ≤ 2147483647 := HT.out rfl
      have HWT : Hid _ := hwt
      have hup : (L.length + 1) * 48 ≤ 140737488355328 := by
        have := weightE_length (L.map It.e)
        rw [List.length_map] at this
        omega
      have HCK := check_any (z := z) (HL.out.here HBC.out) (by omega)
      clear HT hwt
      go_wp2_with fail
      refine HCK.mono ?_
      rintro e1 w6 ⟨rfl, hb6⟩
      have HB6 : Hid (Below w.heap.size w w6) := HBC.out.trans (hb6.mono HBC.out.size)
      have HX6 : Hid (EBox w6 w3.heap.size (.slice a1 ye.k.length c1) (.slice a2 ye.v.length c2)) := HXC.out.here hb6
      have HR6 : Hid (Box w6 (w3.heap.size + 1) (.slice b1 r.lo.length d1) (.slice b2 r.hi.length d2) (.bool r.all)) := HRC.out.here hb6
      have HBY := bytes_any (HL.out.here HB6.out) (by have := HWT.out; omega)
      clear HCK hb6 HXC HRC HBC
      go_wp2_with fail
      refine HBY.mono ?_
      rintro e1 w7 ⟨rfl, q7, rfl⟩
      clear HBY
      by_cases hck : checkE z (L.map It.e) = 0
      case neg =>
        obtain ⟨cv, hcv⟩ : ∃ cv, cv = checkE z (L.map It.e) := ⟨_, rfl⟩
        rw [← hcv] at hck ⊢
        have hcz : ((cv : Int) == 0) = false := by rw [beq_eq_false_iff_ne]; omega
        clear hcv
        go_wp2
        go_ret
        exact ⟨rfl, below_draws HB6.out _⟩
      case pos =>
        have HCK : Hid (checkE z (L.map It.e) = 0) := hck
        rw [hck]
        clear hck
        obtain ⟨n, hn⟩ : ∃ n, n = bytesE (L.map It.e) := ⟨_, rfl⟩
        rw [← hn]
        have HN : Hid (n = bytesE (L.map It.e)) := hn
        clear hn
        go_wp2
        have hsl := sumE_le (L.map It.e)
        have hwt := HWT.out
        go_loopw [10, 11] (fun sm i wx => ∃ k : Nat, k ≤ L.length ∧ i = .int .i64 k ∧ sm = .int .i64 (sumE ((L.map It.e).take k) : Nat) ∧ ∃ q, wx = w6.drewN q) (fun _ i _ => L.length - (intOf i).toNat)
        case atStart => exact ⟨0, by omega, rfl, by simp [sumE], _, rfl⟩
        case round =>
          obtain ⟨k, hk, rfl, rfl, q, rfl⟩ := hrel
          by_cases hlt : k < L.length
          · have hz : (k : Int) < (L.length : Int) := by omega
            obtain ⟨e, he⟩ : ∃ e, L[k]? = some e := ⟨_, List.getElem?_eq_getElem hlt⟩
            obtain ⟨g, off, c', e1, k0, k1⟩ := (HL.out.here HB6.out).cells k e he
            cases e1
            have heo := HL.out.ok e (List.mem_of_getElem? he)
            obtain ⟨a3, c3, f1⟩ := heo.k.form
            obtain ⟨a4, c4, f2⟩ := heo.v.form
            have hs3 := heo.k.short
            have hs4 := heo.v.short
            rw [f1] at k0
            rw [f2] at k1
            have hn := sumE_take (ents_get he)
            obtain ⟨s, hs⟩ : ∃ s, s = sumE ((L.map It.e).take k) := ⟨_, rfl⟩
            have hs5 := hsl k
            rw [← hs] at hn hs5 ⊢
            have HNX : Hid (sumE ((L.map It.e).take (k + 1)) = s + (6 + e.e.k.length + e.e.v.length)) := hn
            clear he heo f1 f2 hn hs hsl
            go_wp2_with fail
            go_quiet (fail)
            go_wp2
            exact ⟨⟨k + 1, by omega, by go_num, by rw [HNX.out]; go_num, _, rfl⟩, by simp [intOf]; omega⟩
          · have hz : ¬ (k : Int) < (L.length : Int) := by omega
            have hta : (L.map It.e).take k = L.map It.e := List.take_of_length_le (by simp; omega)
            have hs5 := hsl k
            rw [hta] at hs5 ⊢
            obtain ⟨s, hs⟩ : ∃ s, s = sumE (L.map It.e) := ⟨_, rfl⟩
            have hns : n ≤ s := by
              rw [HN.out, hs]; unfold bytesE sumE
              have := bytesF_sum [] (L.map It.e); omega
            rw [← hs] at hs5 ⊢
            clear hs hta hsl
            obtain ⟨w8, hw8⟩ : ∃ w8, w8 = w6.drewN q := ⟨_, rfl⟩
            have HB8 : Hid (Below w.heap.size w w8) := by rw [hw8]; exact below_draws HB6.out _
            have HX8 : Hid (EBox w8 w3.heap.size (.slice a1 ye.k.length c1) (.slice a2 ye.v.length c2)) := by rw [hw8]; exact ⟨HX6.out.row⟩
            have hr8 : Box w8 (w3.heap.size + 1) (.slice b1 r.lo.length d1) (.slice b2 r.hi.length d2) (.bool r.all) := by rw [hw8]; exact ⟨HR6.out.row⟩
            rw [← hw8]
            clear hw8 HX6 HR6 HB6
            obtain ⟨k0, k1, k2⟩ := hr8.cells
            go_wp2_with fail
            refine (cut_any (HL.out.here HB8.out) (HRG.out w8 HB8.out)).mono ?_
            rintro e1 w9 ⟨vf, F, rfl, hF, hnl, hb9⟩
            have HB9 : Hid (Below w.heap.size w w9) := HB8.out.trans (hb9.mono HB8.out.size)
            have HX9 : Hid (EBox w9 w3.heap.size (.slice a1 ye.k.length c1) (.slice a2 ye.v.length c2)) := HX8.out.here hb9
            have hFl : F.length ≤ L.length := by
              have h1 := congrArg List.length hF
              have h2 : (cutE r (L.map It.e)).length ≤ (L.map It.e).length := List.length_filter_le _ _
              simp only [List.length_map] at h1 h2
              omega
            have hFL : ListAt w9.heap.size w9 vf F := hnl.list (by omega)
            have HFL : Hid (ListAt w9.heap.size w9 vf F) := hFL
            obtain ⟨af, cf, rfl⟩ := hFL.form
            have HFW : Hid (weightE (F.map It.e) ≤ 4294967296) := by
              have h1 : weightE (cutE r (L.map It.e)) ≤ weightE (L.map It.e) := weightE_filter _ _
              rw [hF]; exact Nat.le_trans h1 (by omega)
            obtain ⟨hz1, hf1, hb1⟩ := checkE_ok HCK.out
            obtain ⟨f1, f2⟩ := cut_fits r HCK.out
            rw [← hF] at f1 f2
            rw [← HN.out] at hb1 f2
            have HF1 : Hid (checkE z (F.map It.e) = 0) := f1
            obtain ⟨m, hm⟩ : ∃ m, m = bytesE (F.map It.e) := ⟨_, rfl⟩
            rw [← hm] at f2
            have HM : Hid (bytesE (F.map It.e) = m) := hm.symm
            clear hF hnl hb9 hFL f1 hm hz1 hf1 HX8 hr8 k0 k1 k2 HB8 hFl
            have g1 : ¬ ((s : Int) < (n : Int)) := by omega
            have g2 : ¬ (z - 32 < (n : Int)) := by omega
            have g3 : ¬ ((n : Int) < (m : Int)) := by omega
            have HCH : Hid (∀ W, Below w9.heap.size w9 W → Calls Try.prog 18 #[.int .i64 z, .slice af F.length cf] W fun r w' => r = .returned (.int .i64 0) ∧ Below W.heap.size W w') := fun W hb => by
              have := check_any (z := z) (HFL.out.here hb) HFW.out
              rw [HF1.out] at this
              exact this
            have HBH : Hid (∀ W, Below w9.heap.size w9 W → Calls Try.prog 19 #[.slice af F.length cf] W fun r w' => r = .returned (.int .i64 m) ∧ ∃ q, w' = W.drewN q) := fun W hb => by
              have := bytes_any (HFL.out.here hb) HFW.out
              rw [HM.out] at this
              exact this
            go_wp2_with fail
            refine (HCH.out w9 (Below.refl _ _)).mono ?_
            rintro e1 w10 ⟨rfl, hb10⟩
            go_wp2_with fail
            refine (HBH.out w10 hb10).mono ?_
            rintro e1 w11' ⟨rfl, q11, rfl⟩
            obtain ⟨w11, hw11⟩ : ∃ w11, w11 = w10.drewN q11 := ⟨_, rfl⟩
            have HB11 : Hid (Below w.heap.size w w11) := by rw [hw11]; exact below_draws (HB9.out.trans (hb10.mono HB9.out.size)) _
            have HX11 : Hid (EBox w11 w3.heap.size (.slice a1 ye.k.length c1) (.slice a2 ye.v.length c2)) := by rw [hw11]; exact HX9.out.here (below_draws hb10 _)
            rw [← hw11]
            clear hw11 hb10 HCH HBH HX9 HB9 HF1 HM HFW HFL g1 g2
            obtain ⟨k0, k1⟩ := HX11.out.cells
            obtain ⟨W12, hW12⟩ : ∃ W12, W12 = w11.alloc (.cells #[.slice a1 ye.k.length c1, .slice a2 ye.v.length c2] 25) := ⟨_, rfl⟩
            have hc12 := check_any (z := z) (list_one w11 ⟨.slice a1 ye.k.length c1, .slice a2 ye.v.length c2, ye⟩ (HE.out.here HB11.out)) (by simp only [List.map_cons, List.map_nil]; omega)
            simp only [List.map_cons, List.map_nil] at hc12
            rw [← hW12] at hc12
            have HC12 : Hid _ := hc12
            have HX12 : Hid (EBox W12 w3.heap.size (.slice a1 ye.k.length c1) (.slice a2 ye.v.length c2)) := by rw [hW12]; exact HX11.out.here (below_new _ _)
            have HB12 : Hid (Below w.heap.size w W12) := by rw [hW12]; exact HB11.out.trans ((below_new _ _).mono HB11.out.size)
            clear hc12
            go_wp2_with fail
            rw [← hW12]
            clear hW12 HX11 HB11 k0 k1
            refine Calls.mono HC12.out ?_
            rintro e1 w13 ⟨rfl, hb13⟩
            have HB13 : Hid (Below w.heap.size w w13) := HB12.out.trans (hb13.mono HB12.out.size)
            have HX13 : Hid (EBox w13 w3.heap.size (.slice a1 ye.k.length c1) (.slice a2 ye.v.length c2)) := HX12.out.here hb13
            clear HC12 hb13 HX12 HB12
            obtain ⟨k0, k1⟩ := HX13.out.cells
            have hof := one_fits HZ.out ye
            by_cases hmy : mayE z.toNat ye
            case neg =>
              obtain ⟨cv, hcv⟩ : ∃ cv, cv = checkE z [ye] := ⟨_, rfl⟩
              have hck : cv ≠ 0 := fun h => hmy (hof.1 (hcv ▸ h))
              rw [← hcv]
              have hcz : ((cv : Int) == 0) = false := by rw [beq_eq_false_iff_ne]; omega
              clear hcv hof
              have HNM : Hid (¬ mayE z.toNat ye) := hmy
              clear hmy
              go_wp2
              all_goals go_ret
              all_goals refine ⟨?_, HB13.out⟩
              all_goals first
                | rfl
                | (have hd : (decide ((ye.k.length : Int) < 1) || decide (z / 16 < (ye.k.length : Int)) || decide (z / 4 < (ye.v.length : Int))) = true := by
                     have h1 := HNM.out
                     unfold mayE at h1
                     rw [Bool.or_eq_true, Bool.or_eq_true, decide_eq_true_eq, decide_eq_true_eq, decide_eq_true_eq]
                     omega
                   rw [hd]
                   rfl)
            case pos =>
              rw [hof.2 hmy]
              have HMY : Hid (mayE z.toNat ye) := hmy
              have HOK : Hid (It.Ok w13.heap.size w13 ⟨.slice a1 ye.k.length c1, .slice a2 ye.v.length c2, ye⟩) := HE.out.here HB13.out
              obtain ⟨_, hf1, _⟩ := checkE_ok HCK.out
              have HRI : Hid (RisenE (L.map It.e)) := (faultE_zero.1 hf1).2
              have HMA : Hid (∀ x ∈ L.map It.e, mayE z.toNat x) := (faultE_zero.1 hf1).1
              clear hof hmy hf1
              go_wp2_with fail
              refine (set_any (y := ⟨.slice a1 ye.k.length c1, .slice a2 ye.v.length c2, ye⟩) (HL.out.here HB13.out) HOK.out rfl HRI.out hup).mono ?_
              rintro e1 w14 ⟨p, b', vg, G, rfl, hfa, hG, hnl, hb14⟩
              have HB14 : Hid (Below w.heap.size w w14) := HB13.out.trans (hb14.mono HB13.out.size)
              simp only at hfa hG
              have hGl : G.length ≤ L.length + 1 := by
                have h1 := congrArg List.length hG
                have h2 := put_length (l := L.map It.e) (e := ye) (p := p) (b := b')
                simp only [List.length_map] at h1 h2
                omega
              have hGL : ListAt w14.heap.size w14 vg G := hnl.list (by omega)
              have HGL : Hid (ListAt w14.heap.size w14 vg G) := hGL
              obtain ⟨ag, cg, rfl⟩ := hGL.form
              have hgc : G.length ≤ cg := by
                obtain ⟨⟨a', c', e1, hc, _⟩, _⟩ := hGL
                cases e1; exact hc
              have HGW : Hid (weightE (G.map It.e) ≤ 4294967296) := by
                have h1 := weightE_put (L.map It.e) ye p b'
                rw [hG]; exact Nat.le_trans h1 (by omega)
              have HGF : Hid (faultE z.toNat (G.map It.e) = 0) := by
                rw [hG]
                exact faultE_zero.2 ⟨put_may HMA.out HMY.out, put_risen HRI.out hfa⟩
              have HGB : Hid (bytesE (G.map It.e) ≤ z.toNat - 32 + (6 + z.toNat / 16 + z.toNat / 4) + z.toNat / 16) := by
                have h1 := put_bytes (p := p) (b := b') HMA.out HMY.out
                rw [← HN.out] at h1
                rw [hG]
                exact Nat.le_trans h1 (by omega)
              have HCG : Hid (∀ W, Below w14.heap.size w14 W → Calls Try.prog 18 #[.int .i64 z, .slice ag G.length cg] W fun r w' => r = .returned (.int .i64 (checkE z (G.map It.e) : Nat)) ∧ Below W.heap.size W w') := fun W hb => check_any (z := z) (HGL.out.here hb) HGW.out
              have hcs := checkE_sized (l := G.map It.e) HZ.out
              rw [HGF.out] at hcs
              simp only [ne_eq, not_true_eq_false, if_false] at hcs
              clear hfa hG hnl hb14 hGL HOK HX13 k0 k1 hs5 hns f2 g3 hb1
              by_cases hbig : z.toNat - 32 < bytesE (G.map It.e)
              case neg =>
                rw [if_neg hbig] at hcs
                rw [hcs] at HCG
                clear hcs hbig
                go_wp2_with fail
                refine (HCG.out w14 (Below.refl _ _)).mono ?_
                rintro e1 w15 ⟨rfl, hb15⟩
                go_wp2
                go_ret
                exact ⟨rfl, HB14.out.trans (hb15.mono HB14.out.size)⟩
              case pos =>
                rw [if_pos hbig] at hcs
                rw [hcs] at HCG
                obtain ⟨s1, s2, s3, s4, s5⟩ := split_fits HZ.out HGF.out hbig HGB.out
                simp only [List.length_map] at s3
                obtain ⟨j, hj⟩ : ∃ j, j = (splitE z (G.map It.e)).1 := ⟨_, rfl⟩
                rw [← hj] at s2 s3 s4 s5
                rw [← List.map_take] at s4
                rw [← List.map_drop] at s5
                have HSP : Hid (∀ W, Below w14.heap.size w14 W → Calls Try.prog 20 #[.int .i64 z, .slice ag G.length cg] W fun r w' => r = .returned (.tuple #[.int .i64 j, .int .i64 0]) ∧ Below W.heap.size W w') := fun W hb => by
                  have := split_any (z := z) (HGL.out.here hb) HGW.out
                  rw [s1, ← hj] at this
                  exact this
                have HS4 : Hid (∀ W, Below w14.heap.size w14 W → Calls Try.prog 18 #[.int .i64 z, .slice ag j cg] W fun r w' => r = .returned (.int .i64 0) ∧ Below W.heap.size W w') := fun W hb => by
                  have := check_any (z := z) ((HGL.out.here hb).take j (by omega) rfl) (by rw [List.map_take]; exact Nat.le_trans (weightE_take _ _) HGW.out)
                  rw [s4] at this
                  exact this
                have HS5 : Hid (∀ W, Below w14.heap.size w14 W → Calls Try.prog 18 #[.int .i64 z, .slice (Option.map (fun x => x.add (j * 2)) ag) (G.length - j) (cg - j)] W fun r w' => r = .returned (.int .i64 0) ∧ Below W.heap.size W w') := fun W hb => by
                  have := check_any (z := z) (((HGL.out.here hb).cut j (by omega)).2 (by omega)) (by rw [List.map_drop]; exact Nat.le_trans (weightE_drop _ _) HGW.out)
                  rw [s5] at this
                  exact this
                clear hcs hbig s1 s4 s5 hj
                have hjc : cg ≠ j := by omega
                have hjc2 : j ≤ cg := by omega
                have hjl : j ≤ G.length := by omega
                have hj1 : ¬ ((j : Int) < 1) := by omega
                have hj2 : ¬ ((G.length : Int) ≤ (j : Int)) := by omega
                go_wp2_with fail
                refine (HCG.out w14 (Below.refl _ _)).mono ?_
                rintro e1 w15 ⟨rfl, hb15⟩
                go_wp2_with fail
                refine (HSP.out w15 hb15).mono ?_
                rintro e1 w16 ⟨rfl, hb16⟩
                have hb16 := hb15.trans (hb16.mono hb15.size)
                clear hb15
                go_wp2_with fail
                refine (HCG.out w16 hb16).mono ?_
                rintro e1 w17 ⟨rfl, hb17⟩
                have hb17 := hb16.trans (hb17.mono hb16.size)
                clear hb16
                go_wp2_with fail
                refine (HS4.out w17 hb17).mono ?_
                rintro e1 w18 ⟨rfl, hb18⟩
                have hb18 := hb17.trans (hb18.mono hb17.size)
                clear hb17
                go_wp2_with fail
                refine (HS5.out w18 hb18).mono ?_
                rintro e1 w19 ⟨rfl, hb19⟩
                have hb19 := hb18.trans (hb19.mono hb18.size)
                clear hb18
                go_wp2
                go_ret
                exact ⟨rfl, HB14.out.trans (hb19.mono HB14.out.size)⟩
end Go.Proofs.Ytgifnaahahfhbab
