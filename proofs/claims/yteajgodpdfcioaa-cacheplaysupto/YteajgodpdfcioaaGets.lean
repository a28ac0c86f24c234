/- Get, Drop, Pin, Unpin. -/
import Derived.Test.YteajgodpdfcioaaPutW
namespace Go.Proofs.Yteajgodpdfcioaa
open Go.RowKit Go.Maps

/-- What Get tells. -/
def Ca.tells (s : Ca Value) (n : Int) : Value := match findT n s.L with
  | none => (.int .i64 0)
  | some t => t.x
theorem core_head {w : World} {c : Nat} {h h' : Hd} {G : List Pl} (k : Core w c h G) {i : Nat} {v : Value} (he : h'.e = h.e) (hf : h'.f = h.f) (hd : (hdr h).setIfInBounds i v = hdr h') : Core (w.setCell ⟨c, i, none⟩ v) c h' G := by
  obtain ⟨h1, ⟨nx, pv, hr⟩, h3⟩ := k
  have hap := hr.apart h1
  refine ⟨(heap_set_same _ h1).trans (by rw [hd]), ⟨nx, pv, ?_⟩, by rw [he, hf]; exact h3⟩
  rw [he]
  exact hr.same fun j hj => set_far _ (fun e => hap (e ▸ hj))
set_option maxHeartbeats 800000 in
set_option maxRecDepth 100000 in
theorem get_in {U : Nat} {own : Nat → Prop} {w : World} {c : Nat} {h : Hd} {A B : List Pl} {p : Pl} {D : DataW Value} {nx pv : Nat → Nat} (hc : CacheIs U w c h D (A ++ p :: B) nx pv) (ho : ∀ k, own k ↔ OwnOf c h (A ++ p :: B) k) (hU : U < 4611686018427387904) :
    Calls Try.prog 13 #[ptr c, .int .i64 p.n] w fun r w' => r = .returned (.tuple #[p.x, .bool true]) ∧ Next U own w c ((h.ca (A ++ p :: B)).get p.n) w' := by
  have hpm : p ∈ A ++ p :: B := by simp
  have hlook := look_in hc.map hpm (hc.wf p hpm)
  have c1 : w.cell? ⟨c, 1, none⟩ = some (.map (some h.m)) := by rw [row_cell hc.head]; rfl
  have c5 : w.cell? ⟨c, 5, none⟩ = some (.int .i64 (h.hits : Int)) := by rw [row_cell hc.head]; rfl
  have fc5 : w.frozen? ⟨c, 5, none⟩ = false := row_frozen hc.head _
  obtain ⟨w1, hw1⟩ : ∃ w1, w1 = w.setCell ⟨c, 5, none⟩ (.int .i64 ((h.hits : Int) + 1)) := ⟨_, rfl⟩
  have k1 : Core w1 c { h with hits := h.hits + 1 } (A ++ p :: B) := by
    rw [hw1]
    exact core_head hc.core rfl rfl (by simp [hdr])
  have hbd : (h.hits : Int) < 4611686018427387904 := by have := hc.caps.2.1; omega
  have HU0 := use_any k1 (by have := hc.caps.1; show h.uses < _; omega)
  have HU : Hid (Calls Try.prog 31 #[ptr c, ptr p.b] w1 _) := HU0
  clear HU0
  have HFN : Hid (∀ w' f', Core w' c { h with hits := h.hits + 1, uses := h.uses + 1, f := f' } (A ++ B ++ [{ p with used := h.uses + 1 }]) → Kept (fun i => i = c ∨ i ∈ h.e :: (A ++ p :: B).map Pl.b) w1 w' → Next U own w c ((h.ca (A ++ p :: B)).get p.n) w' ∧ w'.cell? ⟨p.b, 1, none⟩ = some p.x) := fun w' f' kc hk => by
    have hkw : Kept (fun i => i = c ∨ i ∈ h.e :: (A ++ p :: B).map Pl.b) w w' := by
      rw [hw1] at hk
      exact ((setCell_kept _).mono (fun i _ e => .inl e)).trans hk (fun _ _ e => e)
    have hres := next_moved hc ho kc rfl rfl rfl rfl ⟨by have := hc.caps.2.1; show h.hits + 1 ≤ U + 1; omega, by have := hc.caps.2.2.1; show h.misses ≤ U + 1; omega⟩ rfl rfl (hc.typ p hpm) (by have := hc.caps.2.2.2 p hpm; show p.pins ≤ U + 1; omega) rfl hkw
    obtain ⟨f1, f2, _⟩ := find_at hc.nums
    have e1 : (h.ca (A ++ p :: B)).get p.n = Hd.ca { h with hits := h.hits + 1, uses := h.uses + 1, f := f' } (A ++ B ++ [{ p with used := h.uses + 1 }]) := by
      unfold Ca.get
      rw [show (h.ca (A ++ p :: B)).L = (A ++ p :: B).map Pl.th from rfl, f1, f2]
      simp [Hd.ca, Pl.th]
    rw [e1]
    refine ⟨hres, ?_⟩
    obtain ⟨a, d, hp⟩ := kc.place (p := { p with used := h.uses + 1 }) (by simp)
    rw [row_cell hp]
    rfl
  have HXT : Hid (IsT p.x) := hc.typ p hpm
  clear hc k1 ho
  go_enter Try.func13, Try.ntmps13
  go_upto_region 7 with fail
  rw [← hw1]
  clear hw1
  go_wp2_with fail
  refine Calls.mono HU.out ?_
  rintro r w2 ⟨rfl, ⟨f', k2⟩, hk2⟩
  obtain ⟨HR, b1⟩ := HFN.out w2 f' k2 hk2
  have HRR : Hid (Next _ _ _ _ _ _) := HR
  clear HU HR k2 hk2 HFN
  obtain ⟨z, hpx⟩ := HXT.out
  rw [hpx] at b1
  have HPX : Hid (p.x = (.int .i64 z)) := hpx
  clear hpx HXT
  go_wp2_with fail
  go_ret2
  exact ⟨by rw [HPX.out]; rfl, HRR.out⟩
set_option maxRecDepth 100000 in
theorem get_out {U : Nat} {own : Nat → Prop} {w : World} {c : Nat} {h : Hd} {G : List Pl} {D : DataW Value} {nx pv : Nat → Nat} (hc : CacheIs U w c h D G nx pv) (ho : ∀ k, own k ↔ OwnOf c h G k) {n : Int} (hn : (Lit.int .i64 n).wf = true) (hno : ∀ q ∈ G, q.n ≠ n) (hU : U < 4611686018427387904) :
    Calls Try.prog 13 #[ptr c, .int .i64 n] w fun r w' => r = .returned (.tuple #[(.int .i64 0), .bool false]) ∧ Next U own w c ((h.ca G).get n) w' := by
  have hlook := look_out hc.map hno hn
  have c1 : w.cell? ⟨c, 1, none⟩ = some (.map (some h.m)) := by rw [row_cell hc.head]; rfl
  have c6 : w.cell? ⟨c, 6, none⟩ = some (.int .i64 (h.misses : Int)) := by rw [row_cell hc.head]; rfl
  have fc6 : w.frozen? ⟨c, 6, none⟩ = false := row_frozen hc.head _
  have hbd : (h.misses : Int) < 4611686018427387904 := by have := hc.caps.2.2.1; omega
  have HE : Hid (Next U own w c ((h.ca G).get n) (w.setCell ⟨c, 6, none⟩ (.int .i64 ((h.misses : Int) + 1)))) := by
    have k1 : Core (w.setCell ⟨c, 6, none⟩ (.int .i64 ((h.misses : Int) + 1))) c { h with misses := h.misses + 1 } G := core_head hc.core rfl rfl (by simp [hdr])
    have hres := next_head hc ho k1 rfl rfl rfl rfl ⟨by have := hc.caps.2.1; show h.hits ≤ U + 1; omega, by have := hc.caps.2.2.1; show h.misses + 1 ≤ U + 1; omega⟩ (setCell_kept _)
    have e1 : (h.ca G).get n = Hd.ca { h with misses := h.misses + 1 } G := by
      unfold Ca.get
      rw [show (h.ca G).L = G.map Pl.th from rfl, find_not hno]
      rfl
    rw [e1]
    exact hres
  clear hc ho hno
  go_enter Try.func13, Try.ntmps13
  go_wp2_with fail
  go_ret2
  exact ⟨rfl, HE.out⟩
theorem get_any {U : Nat} {own : Nat → Prop} {w : World} {c : Nat} {s : Ca Value} (h : CacheAt U own w c s) {n : Int} (hn : (Lit.int .i64 n).wf = true) (hU : U < 4611686018427387904) :
    Calls Try.prog 13 #[ptr c, .int .i64 n] w fun r w' => r = .returned (.tuple #[s.tells n, .bool (s.has n)]) ∧ Next U own w c (s.get n) w' := by
  obtain ⟨h, D, G, nx, pv, hc, rfl, ho⟩ := h
  rcases or_in G n with ⟨A, p, B, rfl, rfl⟩ | hno
  · have e := (find_at hc.nums).1
    have e1 : (h.ca (A ++ p :: B)).tells p.n = p.x := by
      unfold Ca.tells
      rw [show (h.ca (A ++ p :: B)).L = (A ++ p :: B).map Pl.th from rfl, e]
      rfl
    have e2 : (h.ca (A ++ p :: B)).has p.n = true := by
      unfold Ca.has
      rw [show (h.ca (A ++ p :: B)).L = (A ++ p :: B).map Pl.th from rfl, e]
      rfl
    rw [e1, e2]
    exact get_in hc ho hU
  · have e := find_not hno
    have e1 : (h.ca G).tells n = (.int .i64 0) := by
      unfold Ca.tells
      rw [show (h.ca G).L = G.map Pl.th from rfl, e]
    have e2 : (h.ca G).has n = false := by
      unfold Ca.has
      rw [show (h.ca G).L = G.map Pl.th from rfl, e]
      rfl
    rw [e1, e2]
    exact get_out hc ho hn hno hU

/-! ### Drop -/
theorem next_dropped {U : Nat} {own : Nat → Prop} {w w' : World} {c : Nat} {h h' : Hd} {A B : List Pl} {p : Pl} {D D' : DataW Value} {nx pv : Nat → Nat} (hc : CacheIs U w c h D (A ++ p :: B) nx pv) (ho : ∀ k, own k ↔ OwnOf c h (A ++ p :: B) k) (k : Core w' c h' (A ++ B)) (m : MapOf w' h.m D' (A ++ B))
    (e0 : h'.places = h.places) (em : h'.m = h.m) (ee : h'.e = h.e) (eu : h'.uses = h.uses) (eh : h'.hits = h.hits ∧ h'.misses = h.misses) (hk : Kept (fun i => i = h.m ∨ i = c ∨ i ∈ h.e :: (A ++ p :: B).map Pl.b) w w') : Next U own w c (h'.ca (A ++ B)) w' := by
  have hsub : (A ++ B).Sublist (A ++ p :: B) := List.Sublist.append_left (List.sublist_cons_self _ _) _
  obtain ⟨c1, c2, c3, c4⟩ := hc.caps
  exact next_mk ho k (by rw [em]; exact m) em ee (fun q hq => .inl (List.mem_map_of_mem (hsub.subset hq))) hk (hc.nums.sublist (hsub.map _)) (by rw [e0]; exact Nat.le_trans hsub.length_le hc.room) (by rw [e0]; exact hc.places) (hc.rise.sublist (hsub.map _)) (fun q hq => by rw [eu]; exact hc.top q (hsub.subset hq)) (fun q hq => hc.typ q (hsub.subset hq)) (fun q hq => hc.wf q (hsub.subset hq)) ⟨by omega, by omega, by omega, fun q hq => by have := c4 q (hsub.subset hq); omega⟩
theorem outT_not {G : List Pl} {n : Int} (h : ∀ q ∈ G, q.n ≠ n) : outT n (G.map Pl.th) = G.map Pl.th := by
  unfold outT
  exact List.filter_eq_self.2 (fun t ht => by obtain ⟨q, hq, rfl⟩ := List.mem_map.1 ht; simpa [Pl.th] using h q hq)
set_option maxRecDepth 100000 in
theorem drop_any {U : Nat} {own : Nat → Prop} {w : World} {c : Nat} {s : Ca Value} (h : CacheAt U own w c s) {n : Int} (hn : (Lit.int .i64 n).wf = true) :
    Calls Try.prog 39 #[ptr c, .int .i64 n] w fun r w' => r = .returned (.bool (s.has n)) ∧ Next U own w c (s.drop n) w' := by
  obtain ⟨h, D, G, nx, pv, hc, rfl, ho⟩ := h
  have c1 : w.cell? ⟨c, 1, none⟩ = some (.map (some h.m)) := by rw [row_cell hc.head]; rfl
  rcases or_in G n with ⟨A, p, B, rfl, rfl⟩ | hno
  · have hpm : p ∈ A ++ p :: B := by simp
    have hlook := look_in hc.map hpm (hc.wf p hpm)
    have e2 : (h.ca (A ++ p :: B)).has p.n = true := by
      unfold Ca.has
      rw [show (h.ca (A ++ p :: B)).L = (A ++ p :: B).map Pl.th from rfl, (find_at hc.nums).1]
      rfl
    rw [e2]
    clear e2
    have HRM : Hid (Calls Try.prog 34 #[ptr c, ptr p.b] w fun r w' => r = .returned (.tuple #[]) ∧ Hid (Next U own w c ((h.ca (A ++ p :: B)).drop p.n) w')) := by
      refine (remove_any hc.core hc.map hc.nums hn).mono ?_
      rintro r w' ⟨rfl, ⟨f', k1⟩, ⟨D', m1⟩, _, hk⟩
      refine ⟨rfl, ?_⟩
      have hres := next_dropped hc ho k1 m1 rfl rfl rfl rfl ⟨rfl, rfl⟩ hk
      have e1 : (h.ca (A ++ p :: B)).drop p.n = Hd.ca { h with f := f' } (A ++ B) := by
        unfold Ca.drop
        rw [show (h.ca (A ++ p :: B)).L = (A ++ p :: B).map Pl.th from rfl, (find_at hc.nums).2.1]
        rfl
      rw [e1]
      exact hres
    clear hc ho
    go_enter Try.func39, Try.ntmps39
    go_wp2_with fail
    refine Calls.mono HRM.out ?_
    rintro r w' ⟨rfl, hR⟩
    clear HRM
    go_wp2_with fail
    go_ret
    exact ⟨rfl, hR.out⟩
  · have hlook := look_out hc.map hno hn
    have e2 : (h.ca G).has n = false := by
      unfold Ca.has
      rw [show (h.ca G).L = G.map Pl.th from rfl, find_not hno]
      rfl
    rw [e2]
    clear e2
    have HE : Hid (Next U own w c ((h.ca G).drop n) w) := by
      have hres := next_head hc ho hc.core rfl rfl rfl rfl ⟨by have := hc.caps.2.1; omega, by have := hc.caps.2.2.1; omega⟩ (Kept.refl _ _)
      have e1 : (h.ca G).drop n = h.ca G := by
        unfold Ca.drop
        rw [show (h.ca G).L = G.map Pl.th from rfl, outT_not hno]
        rfl
      rw [e1]
      exact hres
    clear hc ho hno
    go_enter Try.func39, Try.ntmps39
    go_wp2_with fail
    go_ret
    exact ⟨rfl, HE.out⟩

/-! ### Pin, Unpin: a place turned where it stands -/
theorem ring_turn {w w1 : World} {e : Nat} {A B : List Pl} {p p' : Pl} {nx pv : Nat → Nat} (hr : RingAt w e (A ++ p :: B) nx pv) (hb : p'.b = p.b) (h1 : w1.heap[p.b]? = some (.cells (plc p' (pv p.b) (nx p.b)) 68 (0, 0))) (h2 : ∀ k, k ≠ p.b → w1.heap[k]? = w.heap[k]?) : RingAt w1 e (A ++ p' :: B) nx pv := by
  have hnd := hr.ring.nodup
  have hnd1 : (e :: A.map Pl.b ++ p.b :: B.map Pl.b).Nodup := by simpa using hnd
  obtain ⟨_, d2, d3⟩ := List.nodup_append.1 hnd1
  refine ⟨fun q hq => ?_, by have := hr.ring; simpa [hb] using this⟩
  show w1.heap[q.b]? = _
  have hq' : q = p' ∨ (q ∈ endP e :: (A ++ B)) := by simp at hq ⊢; grind
  rcases hq' with rfl | hq'
  · rw [hb]
    exact h1
  · have hqb : q.b ≠ p.b := by
      intro e1
      rcases List.mem_cons.1 hq' with rfl | hq'
      · exact d3 e (by simp) p.b (by simp) e1
      · rcases List.mem_append.1 hq' with hq' | hq'
        · exact d3 q.b (List.mem_cons_of_mem _ (List.mem_map_of_mem hq')) p.b (by simp) e1
        · exact (List.nodup_cons.1 d2).1 (e1 ▸ List.mem_map_of_mem hq')
    rw [h2 _ hqb]
    exact hr.mem q (by simp at hq' ⊢; grind)
theorem FromOk.turn {e f : Nat} {A B : List Pl} {p p' : Pl} (h : FromOk e f (A ++ p :: B)) (hb : p'.b = p.b) (hp : 0 < p'.pins) : FromOk e f (A ++ p' :: B) := by
  obtain ⟨F, R, hG, hF, hf⟩ := h
  rcases List.append_eq_append_iff.1 hG with ⟨a', hF', hR⟩ | ⟨c', hA, hR⟩
  · cases a' with
    | nil =>
      simp at hF' hR
      subst hF' hR
      exact ⟨F, _, rfl, hF, by rw [hf]; simp [hb]⟩
    | cons q a'' =>
      simp at hR
      obtain ⟨rfl, rfl⟩ := hR
      refine ⟨A ++ p' :: a'', R, by simp, fun q hq => ?_, hf⟩
      rw [hF'] at hF
      simp at hq
      rcases hq with hq | rfl | hq
      · exact hF q (by simp [hq])
      · exact hp
      · exact hF q (by simp [hq])
  · subst hA hR
    exact ⟨F, c' ++ p' :: B, by simp, hF, by rw [hf]; simp [hb]⟩
/-- What 'from' is told when a place is let go. -/
theorem FromOk.loose {e f : Nat} {A B : List Pl} {p p' : Pl} {u : Nat} (h : FromOk e f (A ++ p :: B)) (hb : p'.b = p.b) (hrise : ((A ++ p :: B).map Pl.used).Pairwise (· < ·)) (htop : p.used ≤ u) (hu : u < 4611686018427387904) :
    ∃ q, q ∈ endP e :: (A ++ p :: B) ∧ q.b = f ∧ (p.used < q.used → FromOk e p.b (A ++ p' :: B)) ∧ (¬ p.used < q.used → FromOk e f (A ++ p' :: B)) := by
  obtain ⟨F, R, hG, hF, hf⟩ := h
  have hr1 : (A.map Pl.used ++ p.used :: B.map Pl.used).Pairwise (· < ·) := by simpa using hrise
  rw [List.pairwise_append, List.pairwise_cons] at hr1
  obtain ⟨_, ⟨r2, _⟩, r3⟩ := hr1
  rcases List.append_eq_append_iff.1 hG with ⟨a', hF', hR⟩ | ⟨c', hA, hR⟩
  · cases a' with
    | nil =>
      simp at hF' hR
      subst hF' hR
      exact ⟨p, by simp, hf.symm, fun h => absurd h (Nat.lt_irrefl _), fun _ => ⟨F, p' :: B, rfl, hF, by rw [hf]; simp [hb, fstB]⟩⟩
    | cons q a'' =>
      simp at hR
      obtain ⟨rfl, rfl⟩ := hR
      have key : FromOk e p.b (A ++ p' :: (a'' ++ R)) := ⟨A, p' :: (a'' ++ R), rfl, fun q hq => hF q (by rw [hF']; simp [hq]), by simp [fstB, hb]⟩
      cases R with
      | nil => exact ⟨endP e, by simp, hf.symm, fun _ => key, fun h => absurd (show p.used < 18446744073709551615 by omega) h⟩
      | cons q R =>
        refine ⟨q, by simp, hf.symm, fun _ => key, fun h => absurd (r2 q.used ?_) h⟩
        simp
  · cases c' with
    | nil =>
      simp at hA hR
      subst hA hR
      exact ⟨p, by simp, hf.symm, fun h => absurd h (Nat.lt_irrefl _), fun _ => ⟨A, p' :: B, rfl, hF, by rw [hf]; simp [hb, fstB]⟩⟩
    | cons q c'' =>
      subst hA hR
      refine ⟨q, by simp, hf.symm, fun h => ?_, fun _ => ⟨F, q :: c'' ++ p' :: B, by simp, hF, hf⟩⟩
      have := r3 q.used (by simp) p.used (by simp)
      omega
theorem next_turned {U : Nat} {own : Nat → Prop} {w w' : World} {c : Nat} {h h' : Hd} {A B : List Pl} {p p' : Pl} {D : DataW Value} {nx pv : Nat → Nat} (hc : CacheIs U w c h D (A ++ p :: B) nx pv) (ho : ∀ k, own k ↔ OwnOf c h (A ++ p :: B) k) (k : Core w' c h' (A ++ p' :: B))
    (e0 : h'.places = h.places) (em : h'.m = h.m) (ee : h'.e = h.e) (eu : h'.uses = h.uses) (eh : h'.hits = h.hits ∧ h'.misses = h.misses) (en : p'.n = p.n) (eb : p'.b = p.b) (ex : IsT p'.x) (ep : p'.pins ≤ U + 1) (eused : p'.used = p.used)
    (hk : Kept (fun i => i = c ∨ i ∈ h.e :: (A ++ p :: B).map Pl.b) w w') : Next U own w c (h'.ca (A ++ p' :: B)) w' := by
  have hap := hc.map.apart hc.core
  have en' : (A ++ p' :: B).map Pl.n = (A ++ p :: B).map Pl.n := by simp [en]
  have eb' : (A ++ p' :: B).map Pl.b = (A ++ p :: B).map Pl.b := by simp [eb]
  have eu' : (A ++ p' :: B).map Pl.used = (A ++ p :: B).map Pl.used := by simp [eused]
  have hin : ∀ q ∈ A ++ p' :: B, q = p' ∨ q ∈ A ++ p :: B := fun q hq => by simp at hq ⊢; grind
  obtain ⟨c1, c2, c3, c4⟩ := hc.caps
  refine next_mk ho k (D' := D) (by
    rw [em]
    refine (hc.map.same (hk.block _ hc.map.own.lt hap)).perm (by simp) (fun q hq => ?_) (fun q hq => ?_)
    · rcases hin q hq with rfl | hq
      · exact ⟨p, by simp, en.symm, eb.symm⟩
      · exact ⟨q, hq, rfl, rfl⟩
    · simp at hq
      rcases hq with hq | rfl | hq
      · exact ⟨q, by simp [hq], rfl⟩
      · exact ⟨p', by simp, en⟩
      · exact ⟨q, by simp [hq], rfl⟩) em ee (fun q hq => .inl (by rw [← eb']; exact List.mem_map_of_mem hq)) (hk.mono fun i _ hi => .inr hi) (by rw [en']; exact hc.nums) (by rw [e0]; have := hc.room; simpa using this) (by rw [e0]; exact hc.places) (by rw [eu']; exact hc.rise) ?_ ?_ ?_ ⟨by omega, by omega, by omega, fun q hq => ?_⟩
  · intro q hq
    rcases hin q hq with rfl | hq
    · rw [eused, eu]; exact hc.top p (by simp)
    · rw [eu]; exact hc.top q hq
  · intro q hq
    rcases hin q hq with rfl | hq
    · exact ex
    · exact hc.typ q hq
  · intro q hq
    rcases hin q hq with rfl | hq
    · rw [en]; exact hc.wf p (by simp)
    · exact hc.wf q hq
  · rcases hin q hq with rfl | hq
    · exact ep
    · have := c4 q hq
      omega
theorem map_one {A B : List Pl} {p : Pl} (h : ((A ++ p :: B).map Pl.n).Nodup) (g : Th Value → Th Value) (p' : Pl) (hg : g p.th = p'.th) : ((A ++ p :: B).map Pl.th).map (fun t => if t.n = p.n then g t else t) = (A ++ p' :: B).map Pl.th := by
  obtain ⟨_, _, hne⟩ := find_at h
  have hm : ∀ L : List Pl, (∀ q ∈ L, q.n ≠ p.n) → (L.map Pl.th).map (fun t => if t.n = p.n then g t else t) = L.map Pl.th := fun L hL => by
    rw [List.map_map]
    refine List.map_congr_left (fun q hq => ?_)
    simp [Pl.th, hL q hq]
  rw [List.map_append, List.map_append, List.map_cons, List.map_cons, hm A (fun q hq => hne q (by simp [hq])), hm B (fun q hq => hne q (by simp [hq]))]
  simp [hg, show p.th.n = p.n from rfl]
theorem map_none {G : List Pl} {n : Int} (h : ∀ q ∈ G, q.n ≠ n) (g : Th Value → Th Value) : (G.map Pl.th).map (fun t => if t.n = n then g t else t) = G.map Pl.th := by
  rw [List.map_map]
  refine List.map_congr_left (fun q hq => ?_)
  simp [Pl.th, h q hq]
set_option maxHeartbeats 400000 in
set_option maxRecDepth 100000 in
theorem pin_any {U : Nat} {own : Nat → Prop} {w : World} {c : Nat} {s : Ca Value} (h : CacheAt U own w c s) {n : Int} (hn : (Lit.int .i64 n).wf = true) (hU : U < 4611686018427387904) :
    Calls Try.prog 18 #[ptr c, .int .i64 n] w fun r w' => r = .returned (.bool (s.has n)) ∧ Next U own w c (s.pin n) w' := by
  obtain ⟨h, D, G, nx, pv, hc, rfl, ho⟩ := h
  have c1 : w.cell? ⟨c, 1, none⟩ = some (.map (some h.m)) := by rw [row_cell hc.head]; rfl
  rcases or_in G n with ⟨A, p, B, rfl, rfl⟩ | hno
  · have hpm : p ∈ A ++ p :: B := by simp
    have hlook := look_in hc.map hpm (hc.wf p hpm)
    have e2 : (h.ca (A ++ p :: B)).has p.n = true := by
      unfold Ca.has
      rw [show (h.ca (A ++ p :: B)).L = (A ++ p :: B).map Pl.th from rfl, (find_at hc.nums).1]
      rfl
    rw [e2]
    clear e2
    have hp0 := hc.ring.mem p (List.mem_cons_of_mem _ hpm)
    have b2 : w.cell? ⟨p.b, 2, none⟩ = some (.int .i64 (p.pins : Int)) := by rw [row_cell hp0]; rfl
    have fb2 : w.frozen? ⟨p.b, 2, none⟩ = false := row_frozen hp0 _
    have hbd : (p.pins : Int) < 4611686018427387904 := by have := hc.caps.2.2.2 p hpm; omega
    have HE : Hid (Next U own w c ((h.ca (A ++ p :: B)).pin p.n) (w.setCell ⟨p.b, 2, none⟩ (.int .i64 ((p.pins : Int) + 1)))) := by
      have hpc : p.b ≠ c := fun e => hc.ring.apart hc.head (by rw [← e]; simp)
      have hr1 : RingAt (w.setCell ⟨p.b, 2, none⟩ (.int .i64 ((p.pins : Int) + 1))) h.e (A ++ { p with pins := p.pins + 1 } :: B) nx pv := ring_turn hc.ring rfl ((heap_set_same _ hp0).trans (by simp [plc])) (fun k hk => set_far _ hk)
      have k1 : Core (w.setCell ⟨p.b, 2, none⟩ (.int .i64 ((p.pins : Int) + 1))) c h (A ++ { p with pins := p.pins + 1 } :: B) := ⟨(set_far _ (Ne.symm hpc)).trans hc.head, ⟨nx, pv, hr1⟩, hc.from_.turn rfl (Nat.succ_pos _)⟩
      have hres := next_turned hc ho k1 rfl rfl rfl rfl ⟨rfl, rfl⟩ rfl rfl (hc.typ p hpm) (by have := hc.caps.2.2.2 p hpm; show p.pins + 1 ≤ U + 1; omega) rfl ((setCell_kept _).mono (fun i _ e => .inr (by rw [e]; simp)))
      have e1 : (h.ca (A ++ p :: B)).pin p.n = h.ca (A ++ { p with pins := p.pins + 1 } :: B) := by
        unfold Ca.pin
        rw [show (h.ca (A ++ p :: B)).L = (A ++ p :: B).map Pl.th from rfl, map_one hc.nums (fun t => { t with pins := t.pins + 1 }) { p with pins := p.pins + 1 } rfl]
        rfl
      rw [e1]
      exact hres
    clear hc ho hp0
    go_enter Try.func18, Try.ntmps18
    go_wp2_with fail
    go_ret
    exact ⟨rfl, HE.out⟩
  · have hlook := look_out hc.map hno hn
    have e2 : (h.ca G).has n = false := by
      unfold Ca.has
      rw [show (h.ca G).L = G.map Pl.th from rfl, find_not hno]
      rfl
    rw [e2]
    clear e2
    have HE : Hid (Next U own w c ((h.ca G).pin n) w) := by
      have hres := next_head hc ho hc.core rfl rfl rfl rfl ⟨by have := hc.caps.2.1; omega, by have := hc.caps.2.2.1; omega⟩ (Kept.refl _ _)
      have e1 : (h.ca G).pin n = h.ca G := by
        unfold Ca.pin
        rw [show (h.ca G).L = G.map Pl.th from rfl, map_none hno (fun t => { t with pins := t.pins + 1 })]
        rfl
      rw [e1]
      exact hres
    clear hc ho hno
    go_enter Try.func18, Try.ntmps18
    go_wp2_with fail
    go_ret
    exact ⟨rfl, HE.out⟩
set_option maxHeartbeats 800000 in
set_option maxRecDepth 100000 in
theorem unpin_in {U : Nat} {own : Nat → Prop} {w : World} {c : Nat} {h : Hd} {A B : List Pl} {p : Pl} {D : DataW Value} {nx pv : Nat → Nat} (hc : CacheIs U w c h D (A ++ p :: B) nx pv) (ho : ∀ k, own k ↔ OwnOf c h (A ++ p :: B) k) (hp : p.pins ≠ 0) (hU : U < 4611686018427387904) :
    Calls Try.prog 44 #[ptr c, .int .i64 p.n] w fun r w' => r = .returned (.bool true) ∧ Next U own w c ((h.ca (A ++ p :: B)).unpin p.n) w' := by
  have hpm : p ∈ A ++ p :: B := by simp
  have hlook := look_in hc.map hpm (hc.wf p hpm)
  have c1 : w.cell? ⟨c, 1, none⟩ = some (.map (some h.m)) := by rw [row_cell hc.head]; rfl
  have c3 : w.cell? ⟨c, 3, none⟩ = some (ptr h.f) := by rw [row_cell hc.head]; rfl
  have fc3 : w.frozen? ⟨c, 3, none⟩ = false := row_frozen hc.head _
  have hp0 := hc.ring.mem p (List.mem_cons_of_mem _ hpm)
  obtain ⟨j, hj⟩ : ∃ j, p.pins = j + 1 := ⟨p.pins - 1, by omega⟩
  have b2 : w.cell? ⟨p.b, 2, none⟩ = some (.int .i64 ((j : Int) + 1)) := by rw [row_cell hp0]; show some (Value.int .i64 (p.pins : Int)) = _; rw [hj]; rfl
  have b3 : w.cell? ⟨p.b, 3, none⟩ = some (.int .u64 (p.used : Int)) := by rw [row_cell hp0]; rfl
  have fb2 : w.frozen? ⟨p.b, 2, none⟩ = false := row_frozen hp0 _
  have hbd : (j : Int) < 4611686018427387904 := by have := hc.caps.2.2.2 p hpm; omega
  have hpc : p.b ≠ c := fun e => hc.ring.apart hc.head (by rw [← e]; simp)
  obtain ⟨q, hqm, hqf, hl1, hl2⟩ := hc.from_.loose (p' := { p with pins := j }) rfl hc.rise (hc.top p hpm) (by have := hc.caps.1; omega)
  have hq0 := hc.ring.mem q hqm
  rw [hqf] at hq0
  have q3 : w.cell? ⟨h.f, 3, none⟩ = some (.int .u64 (q.used : Int)) := by rw [row_cell (w := w) (b := h.f) (by rw [← hqf]; exact hc.ring.mem q hqm)]; rfl
  have hr1 : RingAt (w.setCell ⟨p.b, 2, none⟩ (.int .i64 (j : Int))) h.e (A ++ { p with pins := j } :: B) nx pv := ring_turn hc.ring rfl ((heap_set_same _ hp0).trans (by simp [plc])) (fun k hk => set_far _ hk)
  have hh1 : HdAt (w.setCell ⟨p.b, 2, none⟩ (.int .i64 (j : Int))) c h := (set_far _ (Ne.symm hpc)).trans hc.head
  have e1 : (h.ca (A ++ p :: B)).unpin p.n = h.ca (A ++ { p with pins := j } :: B) := by
    unfold Ca.unpin
    rw [show (h.ca (A ++ p :: B)).L = (A ++ p :: B).map Pl.th from rfl, map_one hc.nums (fun t => { t with pins := t.pins - 1 }) { p with pins := j } (by simp [Pl.th, hj])]
    rfl
  have hk1 : Kept (fun i => i = c ∨ i ∈ h.e :: (A ++ p :: B).map Pl.b) w (w.setCell ⟨p.b, 2, none⟩ (.int .i64 (j : Int))) := (setCell_kept _).mono (fun i _ e => .inr (by rw [e]; simp))
  have hpj : j ≤ U + 1 := by have := hc.caps.2.2.2 p hpm; omega
  have HS : Hid (FromOk h.e h.f (A ++ { p with pins := j } :: B) → ∀ q, Next U own w c ((h.ca (A ++ p :: B)).unpin p.n) ((w.setCell ⟨p.b, 2, none⟩ (.int .i64 (j : Int))).drewN q)) := fun hf q => by
    have k1 : Core ((w.setCell ⟨p.b, 2, none⟩ (.int .i64 (j : Int))).drewN q) c h (A ++ { p with pins := j } :: B) := ⟨hh1, ⟨nx, pv, hr1.same fun _ _ => rfl⟩, hf⟩
    have hres := next_turned hc ho k1 rfl rfl rfl rfl ⟨rfl, rfl⟩ rfl rfl (hc.typ p hpm) hpj rfl (hk1.draws q)
    rw [e1]
    exact hres
  have HT : Hid (FromOk h.e p.b (A ++ { p with pins := j } :: B) → ∀ q, Next U own w c ((h.ca (A ++ p :: B)).unpin p.n) (((w.setCell ⟨p.b, 2, none⟩ (.int .i64 (j : Int))).drewN q).setCell ⟨c, 3, none⟩ (ptr p.b))) := fun hf q => by
    have hcap := hr1.apart hh1
    have k1 : Core (((w.setCell ⟨p.b, 2, none⟩ (.int .i64 (j : Int))).drewN q).setCell ⟨c, 3, none⟩ (ptr p.b)) c { h with f := p.b } (A ++ { p with pins := j } :: B) :=
      ⟨(heap_set_same (w := (w.setCell ⟨p.b, 2, none⟩ (.int .i64 (j : Int))).drewN q) _ hh1).trans (by simp [hdr]), ⟨nx, pv, hr1.same fun i hi => set_far (w := (w.setCell ⟨p.b, 2, none⟩ (.int .i64 (j : Int))).drewN q) _ (fun e => hcap (e ▸ hi))⟩, hf⟩
    have hres := next_turned hc ho k1 rfl rfl rfl rfl ⟨rfl, rfl⟩ rfl rfl (hc.typ p hpm) hpj rfl ((hk1.draws q).trans (setCell_kept _) (fun i _ e => .inl e))
    rw [e1]
    exact hres
  have HTP : Hid (0 < j → FromOk h.e h.f (A ++ { p with pins := j } :: B)) := fun hj0 => hc.from_.turn rfl hj0
  have HL1 : Hid (p.used < q.used → FromOk h.e p.b (A ++ { p with pins := j } :: B)) := hl1
  have HL2 : Hid (¬ p.used < q.used → FromOk h.e h.f (A ++ { p with pins := j } :: B)) := hl2
  have hcp := Ne.symm hpc
  clear hc ho hp0 hr1 hh1 e1 hk1 hl1 hl2 hq0 hqf hqm hp hj
  by_cases hj0 : j = 0
  · subst hj0
    have b2' : w.cell? ⟨p.b, 2, none⟩ = some (.int .i64 1) := b2
    clear b2
    by_cases hlt : p.used < q.used
    · have hltz : (p.used : Int) < (q.used : Int) := by omega
      have hd : decide ((p.used : Int) < (q.used : Int)) = true := decide_eq_true hltz
      have HN := HT.out (HL1.out hlt)
      have HNH : Hid (∀ i, Next U own w c ((h.ca (A ++ p :: B)).unpin p.n) (((w.setCell ⟨p.b, 2, none⟩ (.int .i64 0)).drewN i).setCell ⟨c, 3, none⟩ (ptr p.b))) := HN
      clear HN HT HS HTP HL1 HL2 hlt
      go_enter Try.func44, Try.ntmps44
      go_wp2_with fail
      go_quiet (fail)
      go_wp2_with fail
      go_ret
      exact ⟨rfl, HNH.out _⟩
    · have hltz : ¬ (p.used : Int) < (q.used : Int) := by omega
      have hd : decide ((p.used : Int) < (q.used : Int)) = false := decide_eq_false hltz
      have HN := HS.out (HL2.out hlt)
      have HNH : Hid (∀ i, Next U own w c ((h.ca (A ++ p :: B)).unpin p.n) ((w.setCell ⟨p.b, 2, none⟩ (.int .i64 0)).drewN i)) := HN
      clear HN HT HS HTP HL1 HL2 hlt
      go_enter Try.func44, Try.ntmps44
      go_wp2_with fail
      go_quiet (fail)
      go_wp2_with fail
      go_ret
      exact ⟨rfl, HNH.out _⟩
  · have HN := HS.out (HTP.out (by omega))
    have HNH : Hid (∀ i, Next U own w c ((h.ca (A ++ p :: B)).unpin p.n) ((w.setCell ⟨p.b, 2, none⟩ (.int .i64 (j : Int))).drewN i)) := HN
    have hj1 : 1 ≤ (j : Int) := by omega
    have hj2 : (j : Int) ≤ 4611686018427387904 := by omega
    clear HN HT HS HTP HL1 HL2 hj0 hbd hU
    obtain ⟨m, hm⟩ : ∃ m : Int, m = (j : Int) + 1 := ⟨_, rfl⟩
    obtain ⟨i, hi⟩ : ∃ i : Int, i = (j : Int) := ⟨_, rfl⟩
    have hmi : m - 1 = i := by omega
    rw [← hi] at HNH
    rw [← hm] at b2
    have h1 : 1 < m := by omega
    have h2 : m ≤ 4611686018427387905 := by omega
    have h3 : ¬ m = 0 := by omega
    have h4 : ¬ i = 0 := by omega
    clear hj1 hj2 hm hi hpj
    go_enter Try.func44, Try.ntmps44
    go_wp2_with fail
    go_quiet (fail)
    go_wp2_with fail
    go_ret
    exact ⟨rfl, HNH.out _⟩
set_option maxRecDepth 100000 in
theorem unpin_any {U : Nat} {own : Nat → Prop} {w : World} {c : Nat} {s : Ca Value} (h : CacheAt U own w c s) {n : Int} (hn : (Lit.int .i64 n).wf = true) (hU : U < 4611686018427387904) :
    Calls Try.prog 44 #[ptr c, .int .i64 n] w fun r w' => r = .returned (.bool (s.canUnpin n)) ∧ Next U own w c (if s.canUnpin n = true then s.unpin n else s) w' := by
  obtain ⟨h, D, G, nx, pv, hc, rfl, ho⟩ := h
  have c1 : w.cell? ⟨c, 1, none⟩ = some (.map (some h.m)) := by rw [row_cell hc.head]; rfl
  have hself := next_head hc ho hc.core rfl rfl rfl rfl ⟨by have := hc.caps.2.1; omega, by have := hc.caps.2.2.1; omega⟩ (Kept.refl _ _)
  rcases or_in G n with ⟨A, p, B, rfl, rfl⟩ | hno
  · have hpm : p ∈ A ++ p :: B := by simp
    have e2 : (h.ca (A ++ p :: B)).canUnpin p.n = (p.pins != 0) := by
      unfold Ca.canUnpin
      rw [show (h.ca (A ++ p :: B)).L = (A ++ p :: B).map Pl.th from rfl, (find_at hc.nums).1]
      rfl
    by_cases hp : p.pins = 0
    · have hlook := look_in hc.map hpm (hc.wf p hpm)
      have e3 : (p.pins != 0) = false := by simp [hp]
      rw [e2, e3]
      have hp0 := hc.ring.mem p (List.mem_cons_of_mem _ hpm)
      have b2 : w.cell? ⟨p.b, 2, none⟩ = some (.int .i64 0) := by rw [row_cell hp0]; show some (Value.int .i64 (p.pins : Int)) = _; rw [hp]; rfl
      have HS : Hid (Next U own w c (h.ca (A ++ p :: B)) w) := hself
      clear hself hc ho e2 e3 hp hp0
      go_enter Try.func44, Try.ntmps44
      go_wp2_with fail
      go_ret
      exact ⟨rfl, HS.out⟩
    · have e3 : (p.pins != 0) = true := by simp [hp]
      rw [e2, e3]
      exact unpin_in hc ho hp hU
  · have hlook := look_out hc.map hno hn
    have e2 : (h.ca G).canUnpin n = false := by
      unfold Ca.canUnpin
      rw [show (h.ca G).L = G.map Pl.th from rfl, find_not hno]
    rw [e2]
    have HS : Hid (Next U own w c (h.ca G) w) := hself
    clear hself hc ho e2 hno
    go_enter Try.func44, Try.ntmps44
    go_wp2_with fail
    go_ret
    exact ⟨rfl, HS.out⟩
end Go.Proofs.Yteajgodpdfcioaa
