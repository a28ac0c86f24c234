/- tells: Count, Hits and Numbers of one cache of each kind. -/
import Derived.Test.YteajgodpdfcioaaKeep
namespace Go.Proofs.Yteajgodpdfcioaa
open Go.RowKit Go.Maps

/-- All rows of numbers stay. -/
structure Nums (w w' : World) : Prop where
  is : ∀ (k : Nat) (cur : Array Value) z, w.heap[k]? = some (.cells cur 3 z) → w'.heap[k]? = some (.cells cur 3 z)
  size : w.heap.size ≤ w'.heap.size
theorem Nums.of {w w' : World} (h : Stay w w') : Nums w w' := ⟨fun k cur z hk => h.is k cur _ z (by decide) (by decide) (by decide) (by decide) (by decide) (by decide) hk, h.size⟩
theorem Nums.trans {a b c : World} (h : Nums a b) (k : Nums b c) : Nums a c := ⟨fun i cur z hi => k.is i cur z (h.is i cur z hi), Nat.le_trans h.size k.size⟩
theorem Nums.below {w w' : World} (h : Below w.heap.size w w') : Nums w w' := Nums.of (Stay.below h)
theorem Nums.own {w w' : World} {base : Nat} {v : Value} {l : List Int} (h : Nums w w') (k : NewI base w v l) : NewI base w' v l := by
  obtain ⟨hl, k⟩ := k
  refine ⟨hl, ?_⟩
  rcases k with k | ⟨g, cap, cur, e, hb, hg, hc⟩
  · exact .inl k
  · exact .inr ⟨g, cap, cur, e, hb, h.is g cur _ hg, hc⟩
section
variable {B U n : Nat} {w w' : World} {W : Nat} {cs ls rs : Nat → Nat} {SC SL : Nat → Ca Value} {SR : Nat → Ca Int} {vc vl vr vo vw : Value}
theorem Ws.below (h : Ws B U n w W cs ls rs SC SL SR vc vl vr vo vw) (hb : Below w.heap.size w w') : Ws B U n w' W cs ls rs SC SL SR vc vl vr vo vw := h.stay (Stay.below hb) (h.wos.below hb)
/-- The World behind keep. -/
theorem Ws.keep {O N : List (Value × List Int)} {lv wv vo' vw' : Value} {xs : List Int} (h : Ws B U n w W cs ls rs SC SL SR vc vl vr vo vw) (hb : Bk w vo vw O N) (k : KeepPost w W vc vl vr vo vw O N lv xs w' vo' vw' wv) : Ws B U n w' W cs ls rs SC SL SR vc vl vr vo' vw' ∧ Nums w w' ∧ Below B w w' := by
  have typ : ∀ i, (i = W ∨ vo.ownBlock = some i ∨ vw.ownBlock = some i) → ∃ cur t, w.heap[i]? = some (.cells cur t (0, 0)) ∧ (t = 30 ∨ t = 42) := fun i hi => by
    rcases hi with rfl | hi | hi
    · exact ⟨_, _, h.head, .inl rfl⟩
    · obtain ⟨_, _, cur, hc⟩ := own_type hb.ro i hi
      exact ⟨cur, _, hc, .inr rfl⟩
    · obtain ⟨_, _, cur, hc⟩ := own_type hb.rw_ i hi
      exact ⟨cur, _, hc, .inr rfl⟩
  have row : ∀ (T : TypeId) (v : Value) (xs : List Value) (m : Nat), w.ownsRow 0 T 1 v m xs → T ≠ 30 → T ≠ 42 → w'.ownsRow 0 T 1 v m xs := fun T v xs m hr h1 h2 => own_kept hr k.kept (fun j hj e => by
    obtain ⟨_, _, cur, hc⟩ := own_type hr j hj
    obtain ⟨cur', t, hc', ht⟩ := typ j e
    rw [hc'] at hc
    simp at hc
    rcases ht with ht | ht
    · exact h1 (hc.2.symm.trans ht)
    · exact h2 (hc.2.symm.trans ht))
  refine ⟨⟨k.head, row _ _ _ _ h.rc (by decide) (by decide), row _ _ _ _ h.rl (by decide) (by decide), row _ _ _ _ h.rr (by decide) (by decide), h.wos.far k.kept (fun j hj _ => ?_), h.few, Nat.le_trans h.hB k.kept.size, h.lw.1, fun j hj => ?_⟩, ⟨fun j cur z hj => ?_, k.kept.size⟩, Kept.below (Below.refl _ _) k.kept h.hB fun j hj => ?_⟩
  · obtain ⟨cur, t, hc, ht⟩ := typ j hj
    refine ⟨cur, t, _, hc, ?_⟩
    rcases ht with rfl | rfl <;> exact ⟨by decide, by decide, by decide, by decide, by decide, by decide⟩
  · rcases hj with hj | hj | hj | hj | hj
    · exact h.lw.2 j (.inl hj)
    · exact h.lw.2 j (.inr (.inl hj))
    · exact h.lw.2 j (.inr (.inr (.inl hj)))
    · rcases k.oo j hj with e | e
      · exact h.lw.2 j (.inr (.inr (.inr (.inl e))))
      · exact Nat.le_trans h.hB e
    · rcases k.ow j hj with e | e
      · exact h.lw.2 j (.inr (.inr (.inr (.inr e))))
      · exact Nat.le_trans h.hB e
  · rw [k.kept.block j (Array.getElem?_eq_some_iff.1 hj).1 (fun e => by
      obtain ⟨cur', t, hc', ht⟩ := typ j e
      rw [hc'] at hj
      simp at hj
      rcases ht with ht | ht
      · rw [ht] at hj; exact absurd hj.2.1 (by decide)
      · rw [ht] at hj; exact absurd hj.2.1 (by decide))]
    exact hj
  · rcases hj with rfl | hj | hj
    · exact h.lw.1
    · exact h.lw.2 j (.inr (.inr (.inr (.inl hj))))
    · exact h.lw.2 j (.inr (.inr (.inr (.inr hj))))
end
/-- What tells leaves. -/
structure TellPost (B U n : Nat) (w : World) (W : Nat) (cs ls rs : Nat → Nat) (SC SL : Nat → Ca Value) (SR : Nat → Ca Int) (vc vl vr : Value) (O N : List (Value × List Int)) (w' : World) (vo' vw' : Value) (O' N' : List (Value × List Int)) : Prop where
  ws : Ws B U n w' W cs ls rs SC SL SR vc vl vr vo' vw'
  bk : Bk w' vo' vw' O' N'
  len : O'.length = O.length + 2
  nums : Nums w w'
  low : Below B w w'
  new : ∀ p ∈ O' ++ N', p ∈ O ++ N ∨ (∀ k, p.1.ownBlock = some k → w.heap.size ≤ k) ∧ p.2.length ≤ 65536
theorem bk_lt {w : World} {vo vw : Value} {O N : List (Value × List Int)} (h : Bk w vo vw O N) : ∀ p ∈ O, ∀ k, p.1.ownBlock = some k → k < w.heap.size := fun p hp k hk => (own_type (h.outs p hp) k hk).1
set_option maxHeartbeats 3200000 in
set_option maxRecDepth 100000 in
theorem tells_any {B U n : Nat} {w : World} {W i : Nat} {cs ls rs : Nat → Nat} {SC SL : Nat → Ca Value} {SR : Nat → Ca Int} {vc vl vr vo vw : Value} {O N : List (Value × List Int)} (h : Ws B U n w W cs ls rs SC SL SR vc vl vr vo vw) (hb : Bk w vo vw O N) (hi : i < n) (ac : Alike ri (SC i) (SR i)) (al : Alike (lk w) (SL i) (SR i)) (hO : O.length + 2 ≤ 1099511627776) :
    Calls Try.prog 9 #[ptr W, .int .i64 (i : Int)] w fun r w' => r = .returned (.bool true) ∧ ∃ vo' vw' O' N', TellPost B U n w W cs ls rs SC SL SR vc vl vr O N w' vo' vw' O' N' := by
  have en : (SC i).nums = (SR i).nums := ac.nums ri_fair
  have el : (SL i).nums = (SR i).nums := al.nums (lk_fair w)
  have HNL : Hid ((SR i).nums.length ≤ 65536) := by
    obtain ⟨oc, ol, or_, k⟩ := h.wos
    obtain ⟨_, k1, _⟩ := k.r i hi
    have := Nat.le_trans k1.room k1.places.2
    show _ ≤ _
    simpa [Ca.nums] using this
  have HCN : Hid (∀ w', Ws B U n w' W cs ls rs SC SL SR vc vl vr vo vw → Calls Try.prog 16 #[ptr (cs i)] w' fun r w'' => ∃ v, r = .returned v ∧ NewI w'.heap.size w'' v (SR i).nums ∧ Below w'.heap.size w' w'') := fun w' hw => by
    obtain ⟨oc, ol, or_, k⟩ := hw.wos
    rw [← en]
    exact numbers_any (k.c i hi)
  have HLN : Hid (∀ w', Ws B U n w' W cs ls rs SC SL SR vc vl vr vo vw → Calls Try.prog 25 #[ptr (ls i)] w' fun r w'' => ∃ v, r = .returned v ∧ NewI w'.heap.size w'' v (SR i).nums ∧ Below w'.heap.size w' w'') := fun w' hw => by
    obtain ⟨oc, ol, or_, k⟩ := hw.wos
    rw [← el]
    exact Li.numbers_any (k.l i hi)
  have HIN : Hid (i < n) := hi
  have HEQ : Hid ((SC i).hits = (SR i).hits ∧ (SC i).misses = (SR i).misses ∧ (SL i).hits = (SR i).hits ∧ (SL i).misses = (SR i).misses ∧ (SC i).L.length = (SR i).L.length ∧ (SL i).L.length = (SR i).L.length) := ⟨ac.hits, ac.misses, al.hits, al.misses, ac.L.length, al.L.length⟩
  have HHW : Hid (Ws B U n w W cs ls rs SC SL SR vc vl vr vo vw) := h
  have HBK : Hid (Bk w vo vw O N) := hb
  have hnz : (n : Int) ≤ 30 := by have := h.few; omega
  have hiz : (i : Int) < (n : Int) := by omega
  obtain ⟨gc, cc, rfl, c0, c1⟩ := h.cells_c hi
  obtain ⟨gl, cl, rfl, _, _⟩ := h.cells_l hi
  obtain ⟨gr, cr, rfl, r0, r1⟩ := h.cells_r hi
  clear h hb ac al en el hi
  generalize hxs : (SR i).nums = xs at *
  have HXS : Hid ((SR i).nums = xs) := hxs
  clear hxs
  go_enter Try.func9, Try.ntmps9
  go_wp2_with fail
  refine (HCN.out w HHW.out).mono ?_
  rintro r w1 ⟨v1, rfl, hn1, hb1⟩
  have h1 := HHW.out.below hb1
  have HW1 : Hid (Ws B U n w1 W cs ls rs SC SL SR (.slice (some ⟨gc, 0, none⟩) n cc) (.slice (some ⟨gl, 0, none⟩) n cl) (.slice (some ⟨gr, 0, none⟩) n cr) vo vw) := h1
  have HN1 : Hid (NewI w.heap.size w1 v1 xs) := hn1
  have HAA0 : Hid (∀ k, v1.ownBlock = some k → k < w1.heap.size) := fun k hk => (own_type hn1 k hk).1
  have HB1 : Hid (Below w.heap.size w w1) := hb1
  clear c0 c1 r0 r1
  obtain ⟨_, _, e1, c0, c1⟩ := h1.cells_l HIN.out
  cases e1
  obtain ⟨a1, k1, rfl⟩ := own_slice hn1
  have HAA : Hid (∀ k, (Value.slice a1 xs.length k1).ownBlock = some k → k < w1.heap.size) := HAA0.out
  clear HAA0
  clear h1 hn1 hb1
  go_wp2_with fail
  refine (HLN.out w1 HW1.out).mono ?_
  rintro r w2 ⟨v2, rfl, hn2, hb2⟩
  obtain ⟨a2, k2, rfl⟩ := own_slice hn2
  have HW2 : Hid (Ws B U n w2 W cs ls rs SC SL SR (.slice (some ⟨gc, 0, none⟩) n cc) (.slice (some ⟨gl, 0, none⟩) n cl) (.slice (some ⟨gr, 0, none⟩) n cr) vo vw) := HW1.out.below hb2
  have HN2 : Hid (NewI w1.heap.size w2 (.slice a2 xs.length k2) xs) := hn2
  have HN12 : Hid (NewI w.heap.size w2 (.slice a1 xs.length k1) xs) := own_here HN1.out hb2
  have hb02 : Below w.heap.size w w2 := HB1.out.trans (hb2.mono HB1.out.size)
  have HB02 : Hid (Below w.heap.size w w2) := hb02
  have HBK2 : Hid (Bk w2 vo vw O N) := HBK.out.stay (Stay.below hb02)
  have HS12 : Hid (w.heap.size ≤ w1.heap.size ∧ w1.heap.size ≤ w2.heap.size) := ⟨HB1.out.size, hb2.size⟩
  have KP := keep_any HW2.out.head HBK2.out (own_mono HN12.out (Nat.zero_le _)) (fun p hp k hk e => by
    have h1 := bk_lt HBK.out p hp k hk
    have h2 := (own_type HN12.out k e).2.1
    omega) (by omega) (by have := HNL.out; omega)
  clear c0 c1 hn2 hb2 hb02 HN1 HW1
  go_wp2_with fail
  refine KP.mono ?_
  rintro r w3 ⟨rfl, vo3, vw3, wv3, hk3⟩
  clear KP
  obtain ⟨hw3, hn3, hl3⟩ := HW2.out.keep HBK2.out hk3
  have HL3 : Hid (Below B w2 w3) := hl3
  have HK3 : Hid (Bk w3 vo3 vw3 (O ++ [(.slice a1 xs.length k1, xs)]) (N ++ [(wv3, xs)])) := hk3.bk
  have HF3 : Hid (∀ k, wv3.ownBlock = some k → w2.heap.size ≤ k) := hk3.fresh
  have HW3 : Hid (Ws B U n w3 W cs ls rs SC SL SR (.slice (some ⟨gc, 0, none⟩) n cc) (.slice (some ⟨gl, 0, none⟩) n cl) (.slice (some ⟨gr, 0, none⟩) n cr) vo3 vw3) := hw3
  have HN3 : Hid (Nums w2 w3) := hn3
  have HN23 : Hid (NewI w1.heap.size w3 (.slice a2 xs.length k2) xs) := hn3.own HN2.out
  have HN13 : Hid (NewI w.heap.size w3 (.slice a1 xs.length k1) xs) := hn3.own HN12.out
  have KP := keep_any HW3.out.head HK3.out (own_mono HN23.out (Nat.zero_le _)) (fun p hp k hk e => by
    rcases List.mem_append.1 hp with hp | hp
    · have h1 := bk_lt HBK.out p hp k hk
      have h2 := (own_type HN23.out k e).2.1
      have h3 := HS12.out.1
      omega
    · simp at hp
      subst hp
      have h1 := (own_type HN2.out k e).2.1
      have h2 := HAA.out k hk
      omega) (by simp; omega) (by have := HNL.out; omega)
  clear hw3 hn3 hk3 hl3
  go_wp2_with fail
  refine KP.mono ?_
  rintro r w4 ⟨rfl, vo4, vw4, wv4, hk4⟩
  clear KP
  obtain ⟨hw4, hn4, hl4⟩ := HW3.out.keep HK3.out hk4
  have HL4 : Hid (Below B w3 w4) := hl4
  have HK4 : Hid (Bk w4 vo4 vw4 (O ++ [(.slice a1 xs.length k1, xs)] ++ [(.slice a2 xs.length k2, xs)]) (N ++ [(wv3, xs)] ++ [(wv4, xs)])) := hk4.bk
  have HF4 : Hid (∀ k, wv4.ownBlock = some k → w3.heap.size ≤ k) := hk4.fresh
  have HW4 : Hid (Ws B U n w4 W cs ls rs SC SL SR (.slice (some ⟨gc, 0, none⟩) n cc) (.slice (some ⟨gl, 0, none⟩) n cl) (.slice (some ⟨gr, 0, none⟩) n cr) vo4 vw4) := hw4
  have HN4 : Hid (Nums w3 w4) := hn4
  have HN24 : Hid (NewI w1.heap.size w4 (.slice a2 xs.length k2) xs) := hn4.own HN23.out
  have HN14 : Hid (NewI w.heap.size w4 (.slice a1 xs.length k1) xs) := hn4.own HN13.out
  have HHC : Hid (∀ w', Ws B U n w' W cs ls rs SC SL SR (.slice (some ⟨gc, 0, none⟩) n cc) (.slice (some ⟨gl, 0, none⟩) n cl) (.slice (some ⟨gr, 0, none⟩) n cr) vo4 vw4 → Calls Try.prog 27 #[ptr (cs i)] w' fun r w'' => r = .returned (.tuple #[.int .i64 ((SR i).hits : Int), .int .i64 ((SR i).misses : Int)]) ∧ ∃ q, w'' = w'.drewN q) := fun w' hw => by
    obtain ⟨oc, ol, or_, k⟩ := hw.wos
    rw [← HEQ.out.1, ← HEQ.out.2.1]
    exact hits_any (k.c i HIN.out)
  have HHL : Hid (∀ w', Ws B U n w' W cs ls rs SC SL SR (.slice (some ⟨gc, 0, none⟩) n cc) (.slice (some ⟨gl, 0, none⟩) n cl) (.slice (some ⟨gr, 0, none⟩) n cr) vo4 vw4 → Calls Try.prog 28 #[ptr (ls i)] w' fun r w'' => r = .returned (.tuple #[.int .i64 ((SR i).hits : Int), .int .i64 ((SR i).misses : Int)]) ∧ ∃ q, w'' = w'.drewN q) := fun w' hw => by
    obtain ⟨oc, ol, or_, k⟩ := hw.wos
    rw [← HEQ.out.2.2.1, ← HEQ.out.2.2.2.1]
    exact Li.hits_any (k.l i HIN.out)
  have HCC : Hid (∀ w', Ws B U n w' W cs ls rs SC SL SR (.slice (some ⟨gc, 0, none⟩) n cc) (.slice (some ⟨gl, 0, none⟩) n cl) (.slice (some ⟨gr, 0, none⟩) n cr) vo4 vw4 → Calls Try.prog 17 #[ptr (cs i)] w' fun r w'' => r = .returned (.int .i64 ((SR i).L.length : Int)) ∧ w'' = w') := fun w' hw => by
    obtain ⟨oc, ol, or_, k⟩ := hw.wos
    rw [← HEQ.out.2.2.2.2.1]
    exact count_any (k.c i HIN.out)
  have HCL : Hid (∀ w', Ws B U n w' W cs ls rs SC SL SR (.slice (some ⟨gc, 0, none⟩) n cc) (.slice (some ⟨gl, 0, none⟩) n cl) (.slice (some ⟨gr, 0, none⟩) n cr) vo4 vw4 → Calls Try.prog 30 #[ptr (ls i)] w' fun r w'' => r = .returned (.int .i64 ((SR i).L.length : Int)) ∧ w'' = w') := fun w' hw => by
    obtain ⟨oc, ol, or_, k⟩ := hw.wos
    rw [← HEQ.out.2.2.2.2.2]
    exact Li.count_any (k.l i HIN.out)
  have HRN : Hid (∀ w', Ws B U n w' W cs ls rs SC SL SR (.slice (some ⟨gc, 0, none⟩) n cc) (.slice (some ⟨gl, 0, none⟩) n cl) (.slice (some ⟨gr, 0, none⟩) n cr) vo4 vw4 → Calls Try.prog 29 #[ptr (rs i)] w' fun r w'' => ∃ v, r = .returned v ∧ NewI w'.heap.size w'' v xs ∧ Below w'.heap.size w' w'') := fun w' hw => by
    obtain ⟨oc, ol, or_, k⟩ := hw.wos
    rw [← HXS.out]
    exact refNumbers_any (k.r i HIN.out)
  have HRC : Hid (∀ w', Ws B U n w' W cs ls rs SC SL SR (.slice (some ⟨gc, 0, none⟩) n cc) (.slice (some ⟨gl, 0, none⟩) n cl) (.slice (some ⟨gr, 0, none⟩) n cr) vo4 vw4 → ∃ la lc, w'.cell? ⟨rs i, 1, none⟩ = some (.int .i64 ((SR i).hits : Int)) ∧ w'.cell? ⟨rs i, 2, none⟩ = some (.int .i64 ((SR i).misses : Int)) ∧ w'.cell? ⟨rs i, 3, none⟩ = some (.slice la (SR i).L.length lc)) := fun w' hw => by
    obtain ⟨oc, ol, or_, k⟩ := hw.wos
    obtain ⟨lv, k1, _⟩ := k.r i HIN.out
    obtain ⟨la, lc, rfl⟩ := own_slice k1.row
    exact ⟨la, lc, by rw [row_cell k1.cells]; rfl, by rw [row_cell k1.cells]; rfl, by rw [row_cell k1.cells]; rfl⟩
  clear hk4 hn4 hl4
  obtain ⟨_, _, e1, c0, c1⟩ := hw4.cells_c HIN.out
  cases e1
  clear hw4
  go_wp2_with fail
  refine (HHC.out w4 HW4.out).mono ?_
  rintro r w5 ⟨rfl, q5, hw5⟩
  have hb5 : Below w4.heap.size w4 w5 := by rw [hw5]; exact below_draws (Below.refl _ _) _
  have HB5 : Hid (Below w4.heap.size w4 w5) := hb5
  have HW5 : Hid (Ws B U n w5 W cs ls rs SC SL SR (.slice (some ⟨gc, 0, none⟩) n cc) (.slice (some ⟨gl, 0, none⟩) n cl) (.slice (some ⟨gr, 0, none⟩) n cr) vo4 vw4) := HW4.out.below hb5
  clear c0 c1 hw5 hb5
  obtain ⟨_, _, e1, c0, c1⟩ := HW5.out.cells_l HIN.out
  cases e1
  go_wp2_with fail
  refine (HHL.out w5 HW5.out).mono ?_
  rintro r w6 ⟨rfl, q6, hw6⟩
  have hb6 : Below w4.heap.size w4 w6 := by rw [hw6]; exact below_draws HB5.out _
  have HB6 : Hid (Below w4.heap.size w4 w6) := hb6
  have HW6 : Hid (Ws B U n w6 W cs ls rs SC SL SR (.slice (some ⟨gc, 0, none⟩) n cc) (.slice (some ⟨gl, 0, none⟩) n cl) (.slice (some ⟨gr, 0, none⟩) n cr) vo4 vw4) := HW4.out.below hb6
  clear c0 c1 hw6 hb6
  go_wp2_with fail
  refine (HRN.out w6 HW6.out).mono ?_
  rintro r w7 ⟨v7, rfl, hn7, hb7⟩
  have HB7 : Hid (Below w4.heap.size w4 w7) := HB6.out.trans (hb7.mono HB6.out.size)
  have HSM := sameInts_any (RowAt.own (own_here HN14.out HB7.out)) (RowAt.own hn7) (by have := HNL.out; omega)
  rw [decide_eq_true rfl] at HSM
  clear hn7 hb7
  go_wp2_with fail
  refine HSM.mono ?_
  rintro r w8 ⟨rfl, q8, hw8⟩
  clear HSM
  have hb8 : Below w4.heap.size w4 w8 := by rw [hw8]; exact below_draws HB7.out _
  have HB8 : Hid (Below w4.heap.size w4 w8) := hb8
  have HW8 : Hid (Ws B U n w8 W cs ls rs SC SL SR (.slice (some ⟨gc, 0, none⟩) n cc) (.slice (some ⟨gl, 0, none⟩) n cl) (.slice (some ⟨gr, 0, none⟩) n cr) vo4 vw4) := HW4.out.below hb8
  clear hw8 hb8
  go_wp2_with fail
  refine (HRN.out w8 HW8.out).mono ?_
  rintro r w9 ⟨v9, rfl, hn9, hb9⟩
  have HB9 : Hid (Below w4.heap.size w4 w9) := HB8.out.trans (hb9.mono HB8.out.size)
  have HSM := sameInts_any (RowAt.own (own_here HN24.out HB9.out)) (RowAt.own hn9) (by have := HNL.out; omega)
  rw [decide_eq_true rfl] at HSM
  clear hn9 hb9
  go_wp2_with fail
  refine HSM.mono ?_
  rintro r wA ⟨rfl, qA, hwA⟩
  clear HSM
  have hbA : Below w4.heap.size w4 wA := by rw [hwA]; exact below_draws HB9.out _
  have HBA : Hid (Below w4.heap.size w4 wA) := hbA
  have HWA : Hid (Ws B U n wA W cs ls rs SC SL SR (.slice (some ⟨gc, 0, none⟩) n cc) (.slice (some ⟨gl, 0, none⟩) n cl) (.slice (some ⟨gr, 0, none⟩) n cr) vo4 vw4) := HW4.out.below hbA
  clear hwA hbA
  obtain ⟨la, lc, x1, x2, x3⟩ := HRC.out wA HWA.out
  obtain ⟨_, _, e1, c0, c1⟩ := HWA.out.cells_c HIN.out
  cases e1
  obtain ⟨_, _, e1, d0, d1⟩ := HWA.out.cells_l HIN.out
  cases e1
  have HCA : Hid (∀ q, Calls Try.prog 17 #[ptr (cs i)] (wA.drewN q) fun r w'' => r = .returned (.int .i64 ((SR i).L.length : Int)) ∧ w'' = wA.drewN q) := fun q => HCC.out _ (HWA.out.below (below_draws (Below.refl _ _) q))
  have HLA : Hid (∀ q, Calls Try.prog 30 #[ptr (ls i)] (wA.drewN q) fun r w'' => r = .returned (.int .i64 ((SR i).L.length : Int)) ∧ w'' = wA.drewN q) := fun q => HCL.out _ (HWA.out.below (below_draws (Below.refl _ _) q))
  generalize hh1 : ((SR i).hits : Int) = hh at *
  generalize hh2 : ((SR i).misses : Int) = mm at *
  generalize hh3 : (SR i).L.length = ll at *
  clear hh1 hh2 hh3
  go_wp2_with fail
  dsimp only [List.append]
  go_quiet ((first
    | (go_at_call 17; exact Calls.quiet_of_same (HCA.out _))
    | (go_at_call 30; exact Calls.quiet_of_same (HLA.out _))))
  go_wp2_with fail
  go_ret
  refine ⟨rfl, vo4, vw4, _, _, ⟨HWA.out.below (below_draws (Below.refl _ _) _), HK4.out.stay (Stay.below (below_draws HBA.out _)), by simp, ((((Nums.below HB02.out).trans HN3.out).trans HN4.out).trans (Nums.below (below_draws HBA.out _))), ((HB02.out.mono HHW.out.hB).trans (HL3.out.trans HL4.out)).trans ((below_draws HBA.out _).mono HW4.out.hB), fun p hp => ?_⟩⟩
  simp only [List.mem_append, List.mem_singleton] at hp ⊢
  rcases hp with ((hp | rfl) | rfl) | ((hp | rfl) | rfl)
  · exact .inl (.inl hp)
  · exact .inr ⟨fun k hk => (own_type HN14.out k hk).2.1, HNL.out⟩
  · exact .inr ⟨fun k hk => Nat.le_trans HS12.out.1 (own_type HN24.out k hk).2.1, HNL.out⟩
  · exact .inl (.inr hp)
  · exact .inr ⟨fun k hk => Nat.le_trans HB02.out.size (HF3.out k hk), HNL.out⟩
  · exact .inr ⟨fun k hk => Nat.le_trans (Nat.le_trans HB02.out.size HN3.out.size) (HF4.out k hk), HNL.out⟩
end Go.Proofs.Yteajgodpdfcioaa
