/- The law's World: its rows of caches, and each call on one of them. -/
import Derived.Test.YteajgodpdfcioaaWd
import Derived.Test.YteajgodpdfcioaaAlike
namespace Go.Proofs.Yteajgodpdfcioaa
open Go.RowKit Go.Maps

/-- The likeness of numbers' things; of lists'. -/
def ri (t : Th Value) (u : Th Int) : Prop := t.n = u.n ∧ t.pins = u.pins ∧ t.x = .int .i64 u.x
theorem ri_fair : Fair ri := ⟨fun _ _ h => h.1, fun _ _ h => h.2.1, fun _ _ _ h => ⟨h.1, rfl, h.2.2⟩⟩
theorem lk_fair (w : World) : Fair (lk w) := ⟨fun _ _ h => h.1, fun _ _ h => h.2.1, fun _ _ _ h => ⟨h.1, rfl, h.2.2⟩⟩
theorem lk_stay {w w' : World} (h : Stay w w') {t : Th Value} {u : Th Int} (k : lk w t u) : lk w' t u := by
  obtain ⟨h1, h2, g, h3, h4⟩ := k
  exact ⟨h1, h2, g, h3, h.is g _ _ _ (by decide) (by decide) (by decide) (by decide) (by decide) (by decide) h4⟩
theorem Alike.stay {w w' : World} {s : Ca Value} {s' : Ca Int} (h : Alike (lk w) s s') (k : Stay w w') : Alike (lk w') s s' := ⟨h.places, h.hits, h.misses, h.L.mono fun _ _ _ _ r => lk_stay k r⟩
def ptrs (n : Nat) (f : Nat → Nat) : List Value := (List.range n).map fun i => ptr (f i)
theorem ptrs_at {n i : Nat} {f : Nat → Nat} (h : i < n) : (ptrs n f)[i]? = some (ptr (f i)) := by simp [ptrs, h]
/-- The World: its head, its three rows of caches. -/
structure Ws (B U n : Nat) (w : World) (W : Nat) (cs ls rs : Nat → Nat) (SC SL : Nat → Ca Value) (SR : Nat → Ca Int) (vc vl vr vo vw : Value) : Prop where
  head : w.heap[W]? = some (.cells #[vc, vl, vr, vo, vw] 30 (0, 0))
  rc : w.ownsRow 0 38 1 vc n (ptrs n cs)
  rl : w.ownsRow 0 56 1 vl n (ptrs n ls)
  rr : w.ownsRow 0 58 1 vr n (ptrs n rs)
  wos : Wos B U n w cs ls rs SC SL SR
  few : n ≤ 30
  hB : B ≤ w.heap.size
  lw : B ≤ W ∧ ∀ k, (vc.ownBlock = some k ∨ vl.ownBlock = some k ∨ vr.ownBlock = some k ∨ vo.ownBlock = some k ∨ vw.ownBlock = some k) → B ≤ k
section
variable {B U n : Nat} {w w' : World} {W : Nat} {cs ls rs : Nat → Nat} {SC SL : Nat → Ca Value} {SR : Nat → Ca Int} {vc vl vr vo vw : Value} {i : Nat}
theorem Ws.stay {U' : Nat} {SC' SL' : Nat → Ca Value} {SR' : Nat → Ca Int} (h : Ws B U n w W cs ls rs SC SL SR vc vl vr vo vw) (k : Stay w w') (hw : Wos B U' n w' cs ls rs SC' SL' SR') : Ws B U' n w' W cs ls rs SC' SL' SR' vc vl vr vo vw :=
  ⟨k.is W _ _ _ (by decide) (by decide) (by decide) (by decide) (by decide) (by decide) h.head, own_stay h.rc k (by decide) (by decide) (by decide) (by decide) (by decide) (by decide), own_stay h.rl k (by decide) (by decide) (by decide) (by decide) (by decide) (by decide), own_stay h.rr k (by decide) (by decide) (by decide) (by decide) (by decide) (by decide), hw, h.few, Nat.le_trans h.hB k.size, h.lw⟩
theorem ptr_row {T : TypeId} {v : Value} {f : Nat → Nat} (h : w.ownsRow 0 T 1 v n (ptrs n f)) (hi : i < n) : ∃ g c, v = .slice (some ⟨g, 0, none⟩) n c ∧ w.cell? ⟨g, i, none⟩ = some (ptr (f i)) := by
  rcases own_row h with ⟨_, h0⟩ | ⟨g, c, e, _, _, hc⟩
  · omega
  · exact ⟨g, c, e, hc i _ (ptrs_at hi)⟩
theorem Ws.cells_c (h : Ws B U n w W cs ls rs SC SL SR vc vl vr vo vw) (hi : i < n) : ∃ g c, vc = .slice (some ⟨g, 0, none⟩) n c ∧ w.cell? ⟨W, 0, none⟩ = some (.slice (some ⟨g, 0, none⟩) n c) ∧ w.cell? ⟨g, i, none⟩ = some (ptr (cs i)) := by
  obtain ⟨g, c, e, hc⟩ := ptr_row h.rc hi
  exact ⟨g, c, e, by rw [row_cell h.head, e]; rfl, hc⟩
theorem Ws.cells_l (h : Ws B U n w W cs ls rs SC SL SR vc vl vr vo vw) (hi : i < n) : ∃ g c, vl = .slice (some ⟨g, 0, none⟩) n c ∧ w.cell? ⟨W, 1, none⟩ = some (.slice (some ⟨g, 0, none⟩) n c) ∧ w.cell? ⟨g, i, none⟩ = some (ptr (ls i)) := by
  obtain ⟨g, c, e, hc⟩ := ptr_row h.rl hi
  exact ⟨g, c, e, by rw [row_cell h.head, e]; rfl, hc⟩
theorem Ws.cells_r (h : Ws B U n w W cs ls rs SC SL SR vc vl vr vo vw) (hi : i < n) : ∃ g c, vr = .slice (some ⟨g, 0, none⟩) n c ∧ w.cell? ⟨W, 2, none⟩ = some (.slice (some ⟨g, 0, none⟩) n c) ∧ w.cell? ⟨g, i, none⟩ = some (ptr (rs i)) := by
  obtain ⟨g, c, e, hc⟩ := ptr_row h.rr hi
  exact ⟨g, c, e, by rw [row_cell h.head, e]; rfl, hc⟩
/-- What a call leaves of the World. -/
def After (B U n : Nat) (w : World) (W : Nat) (cs ls rs : Nat → Nat) (SC SL : Nat → Ca Value) (SR : Nat → Ca Int) (vc vl vr vo vw : Value) (w' : World) : Prop := Ws B U n w' W cs ls rs SC SL SR vc vl vr vo vw ∧ Moves B w w'
theorem Ws.call_c {f : Nat} {args : Array Value} {E : Ending} {s' : Ca Value} (h : Ws B U n w W cs ls rs SC SL SR vc vl vr vo vw) (hi : i < n) (H : ∀ own, CacheAt U own w (cs i) (SC i) → Calls Try.prog f args w fun r w' => r = E ∧ Next U own w (cs i) s' w') :
    Calls Try.prog f args w fun r w' => r = E ∧ Hid (After B (U + 1) n w W cs ls rs (at_ SC i s') SL SR vc vl vr vo vw w') := by
  obtain ⟨oc, ol, or_, k⟩ := h.wos
  refine (H _ (k.c i hi)).mono ?_
  rintro r w' ⟨rfl, hx⟩
  obtain ⟨h1, h2⟩ := (k.next_c hi h.hB hx).out
  exact ⟨rfl, h.stay h2.stay h1, h2⟩
theorem Ws.call_l {f : Nat} {args : Array Value} {E : Ending} {s' : Ca Value} (h : Ws B U n w W cs ls rs SC SL SR vc vl vr vo vw) (hi : i < n) (H : ∀ own, Li.CacheAt U own w (ls i) (SL i) → Calls Try.prog f args w fun r w' => r = E ∧ Li.Next U own w (ls i) s' w') :
    Calls Try.prog f args w fun r w' => r = E ∧ Hid (After B (U + 1) n w W cs ls rs SC (at_ SL i s') SR vc vl vr vo vw w') := by
  obtain ⟨oc, ol, or_, k⟩ := h.wos
  refine (H _ (k.l i hi)).mono ?_
  rintro r w' ⟨rfl, hx⟩
  obtain ⟨h1, h2⟩ := (k.next_l hi h.hB hx).out
  exact ⟨rfl, h.stay h2.stay h1, h2⟩
theorem Ws.call_r {f : Nat} {args : Array Value} {E : Ending} {s' : Ca Int} (h : Ws B U n w W cs ls rs SC SL SR vc vl vr vo vw) (hi : i < n) (H : ∀ own, RefAt U own w (rs i) (SR i) → Calls Try.prog f args w fun r w' => r = E ∧ RNext U own w (rs i) s' w') :
    Calls Try.prog f args w fun r w' => r = E ∧ Hid (After B (U + 1) n w W cs ls rs SC SL (at_ SR i s') vc vl vr vo vw w') := by
  obtain ⟨oc, ol, or_, k⟩ := h.wos
  refine (H _ (k.r i hi)).mono ?_
  rintro r w' ⟨rfl, hx⟩
  obtain ⟨h1, h2⟩ := (k.next_r hi h.hB hx).out
  exact ⟨rfl, h.stay h2.stay h1, h2⟩
end
theorem lk_find {w : World} {s : Ca Value} {s' : Ca Int} (h : Alike (lk w) s s') (m : Int) : (s'.has m = false ∧ s.tellsL m = .slice none 0 0) ∨ ∃ u g, findT m s'.L = some u ∧ s'.has m = true ∧ s.tellsL m = .slice (some ⟨g, 0, none⟩) 1 1 ∧ w.heap[g]? = some (.cells #[.int .i64 u.x] 3 (0, 0)) := by
  rcases h.find (lk_fair w) m with ⟨h1, h2⟩ | ⟨t, u, h1, h2, r⟩
  · exact .inl ⟨by unfold Ca.has; rw [h2]; rfl, by unfold Ca.tellsL; rw [h1]⟩
  · obtain ⟨_, _, g, h3, h4⟩ := r
    exact .inr ⟨u, g, h2, by unfold Ca.has; rw [h2]; rfl, by unfold Ca.tellsL; rw [h1]; exact h3, h4⟩
/-- What the document's Get tells. -/
def told (m : Int) (L : List (Th Int)) : Int := match findT m L with
  | none => 0
  | some t => t.x
theorem ri_tells {s : Ca Value} {s' : Ca Int} (h : Alike ri s s') (m : Int) : s.tells m = .int .i64 (told m s'.L) := by
  unfold Ca.tells told
  rcases h.find ri_fair m with ⟨h1, h2⟩ | ⟨t, u, h1, h2, r⟩
  · rw [h1, h2]
  · rw [h1, h2]
    exact r.2.2
set_option maxHeartbeats 800000 in
set_option maxRecDepth 100000 in
theorem gets_any {B U n : Nat} {w : World} {W i : Nat} {cs ls rs : Nat → Nat} {SC SL : Nat → Ca Value} {SR : Nat → Ca Int} {vc vl vr vo vw : Value} (h : Ws B U n w W cs ls rs SC SL SR vc vl vr vo vw) (hi : i < n) (ac : Alike ri (SC i) (SR i)) (al : Alike (lk w) (SL i) (SR i)) {m : Int} (hm : (Lit.int .i64 m).wf = true) (hU : U + 3 < 4611686018427387904) :
    Calls Try.prog 20 #[ptr W, .int .i64 (i : Int), .int .i64 m] w fun r w' => r = .returned (.bool true) ∧ After B (U + 1 + 1 + 1) n w W cs ls rs (at_ SC i ((SC i).get m)) (at_ SL i ((SL i).get m)) (at_ SR i ((SR i).get m)) vc vl vr vo vw w' := by
  have hb : (SC i).has m = (SR i).has m := ac.has ri_fair m
  have hbl : (SL i).has m = (SR i).has m := al.has (lk_fair w) m
  have ht := ri_tells ac m
  have HA := h.call_c hi fun own k => get_any k hm (by omega)
  rw [ht, hb] at HA
  obtain ⟨gc, cc, rfl, c0, c1⟩ := h.cells_c hi
  obtain ⟨gl, cl, rfl, _, _⟩ := h.cells_l hi
  obtain ⟨gr, cr, rfl, _, _⟩ := h.cells_r hi
  have hiz : (i : Int) < (n : Int) := by omega
  have hnz : (n : Int) ≤ 30 := by have := h.few; omega
  have HAL : Hid (Alike (lk w) (SL i) (SR i)) := al
  have HBL : Hid ((SL i).has m = (SR i).has m) := hbl
  have HIN : Hid (i < n) := hi
  have HAH : Hid (Calls Try.prog 13 #[ptr (cs i), .int .i64 m] w fun r w' => r = .returned (.tuple #[.int .i64 (told m (SR i).L), .bool ((SR i).has m)]) ∧ Hid (After B (U + 1) n w W cs ls rs (at_ SC i ((SC i).get m)) SL SR (.slice (some ⟨gc, 0, none⟩) n cc) (.slice (some ⟨gl, 0, none⟩) n cl) (.slice (some ⟨gr, 0, none⟩) n cr) vo vw w')) := HA
  clear HA hb hbl ht ac al h hi
  go_enter Try.func20, Try.ntmps20
  go_wp2_with fail
  refine Calls.mono HAH.out ?_
  rintro r w1 ⟨rfl, h1⟩
  clear HAH c0 c1
  obtain ⟨_, _, e1, c0, c1⟩ := h1.out.1.cells_l HIN.out
  cases e1
  have HLT := h1.out.1.call_l HIN.out fun own k => Li.get_any k hm (by omega)
  rw [HBL.out] at HLT
  have HLH : Hid (Calls Try.prog 23 #[ptr (ls i), .int .i64 m] w1 fun r w' => r = .returned (.tuple #[(SL i).tellsL m, .bool ((SR i).has m)]) ∧ Hid (After B (U + 1 + 1) n w1 W cs ls rs (at_ SC i ((SC i).get m)) (at_ SL i ((SL i).get m)) SR (.slice (some ⟨gc, 0, none⟩) n cc) (.slice (some ⟨gl, 0, none⟩) n cl) (.slice (some ⟨gr, 0, none⟩) n cr) vo vw w')) := HLT
  clear HLT
  have HT1 : Hid (Moves B w w1) := h1.out.2
  go_wp2_with fail
  refine Calls.mono HLH.out ?_
  rintro r w2 ⟨rfl, h2⟩
  clear HLH c0 c1 h1
  obtain ⟨_, _, e1, c0, c1⟩ := h2.out.1.cells_r HIN.out
  cases e1
  have HRH : Hid (Calls Try.prog 24 #[ptr (rs i), .int .i64 m] w2 fun r w' => r = .returned (.tuple #[.int .i64 (told m (SR i).L), .bool ((SR i).has m)]) ∧ Hid (After B (U + 1 + 1 + 1) n w2 W cs ls rs (at_ SC i ((SC i).get m)) (at_ SL i ((SL i).get m)) (at_ SR i ((SR i).get m)) (.slice (some ⟨gc, 0, none⟩) n cc) (.slice (some ⟨gl, 0, none⟩) n cl) (.slice (some ⟨gr, 0, none⟩) n cr) vo vw w')) := h2.out.1.call_r HIN.out fun own k => refGet_any k m (by omega)
  have HT2 : Hid (Moves B w w2) := HT1.out.trans h2.out.2
  clear h2 HT1
  rcases lk_find HAL.out m with ⟨hhas, htl⟩ | ⟨u, g, hf, hhas, htl, hg⟩
  · rw [hhas] at HRH ⊢
    rw [htl]
    clear hhas htl
    go_wp2_with fail
    refine Calls.mono HRH.out ?_
    rintro r w3 ⟨rfl, h3⟩
    clear HRH c0 c1
    go_wp2_with fail
    go_ret
    exact ⟨rfl, h3.out.1, HT2.out.trans h3.out.2⟩
  · have htd : told m (SR i).L = u.x := by unfold told; rw [hf]
    rw [hhas, htd] at HRH
    rw [hhas, htl, htd]
    have HG : Hid (w.heap[g]? = some (.cells #[.int .i64 u.x] 3 (0, 0))) := hg
    clear hhas htl htd hf hg
    go_wp2_with fail
    refine Calls.mono HRH.out ?_
    rintro r w3 ⟨rfl, h3⟩
    clear HRH c0 c1
    have hg3 := (HT2.out.trans h3.out.2).is g _ _ _ (by decide) (by decide) (by decide) (by decide) (by decide) (by decide) HG.out
    have y0 : w3.cell? ⟨g, 0, none⟩ = some (.int .i64 u.x) := by rw [row_cell hg3]; rfl
    clear hg3
    go_wp2_with fail
    go_ret
    exact ⟨rfl, h3.out.1, HT2.out.trans h3.out.2⟩
end Go.Proofs.Yteajgodpdfcioaa
