/- What a call leaves of a cache; Put. -/
import Derived.Test.YteajgodpdfcioaaLoose
namespace Go.Proofs.Yteajgodpdfcioaa
open Go.RowKit Go.Maps

/-! ### lists of places and of things -/
theorem find_at {A B : List Pl} {p : Pl} (h : ((A ++ p :: B).map Pl.n).Nodup) : findT p.n ((A ++ p :: B).map Pl.th) = some p.th ∧ outT p.n ((A ++ p :: B).map Pl.th) = (A ++ B).map Pl.th ∧ (∀ q ∈ A ++ B, q.n ≠ p.n) := by
  have h1 : (A.map Pl.n ++ p.n :: B.map Pl.n).Nodup := by simpa using h
  obtain ⟨_, d2, d3⟩ := List.nodup_append.1 h1
  have ha : ∀ q ∈ A, q.n ≠ p.n := fun q hq => d3 q.n (List.mem_map_of_mem hq) p.n (by simp)
  have hb : ∀ q ∈ B, q.n ≠ p.n := fun q hq e => (List.nodup_cons.1 d2).1 (e ▸ List.mem_map_of_mem hq)
  refine ⟨?_, ?_, fun q hq => (List.mem_append.1 hq).elim (ha q) (hb q)⟩
  · unfold findT
    rw [List.map_append, List.find?_append]
    rw [List.find?_eq_none.2 (fun t ht => by obtain ⟨q, hq, rfl⟩ := List.mem_map.1 ht; simpa [Pl.th] using ha q hq)]
    simp [Pl.th]
  · unfold outT
    rw [List.map_append, List.filter_append, List.map_cons, List.filter_cons_of_neg (by simp [Pl.th])]
    rw [List.filter_eq_self.2 (fun t ht => by obtain ⟨q, hq, rfl⟩ := List.mem_map.1 ht; simpa [Pl.th] using ha q hq), List.filter_eq_self.2 (fun t ht => by obtain ⟨q, hq, rfl⟩ := List.mem_map.1 ht; simpa [Pl.th] using hb q hq)]
    simp
theorem find_not {G : List Pl} {n : Int} (h : ∀ q ∈ G, q.n ≠ n) : findT n (G.map Pl.th) = none := by
  unfold findT
  exact List.find?_eq_none.2 (fun t ht => by obtain ⟨q, hq, rfl⟩ := List.mem_map.1 ht; simpa [Pl.th] using h q hq)
theorem loose_at {F R : List Pl} {q : Pl} (hF : ∀ x ∈ F, 0 < x.pins) (hq : q.pins = 0) : looseT ((F ++ q :: R).map Pl.th) = some q.th := by
  unfold looseT
  rw [List.map_append, List.find?_append]
  rw [List.find?_eq_none.2 (fun t ht => by obtain ⟨x, hx, rfl⟩ := List.mem_map.1 ht; have := hF x hx; simp [Pl.th]; omega)]
  simp [Pl.th, hq]
theorem loose_not {F : List Pl} (hF : ∀ x ∈ F, 0 < x.pins) : looseT (F.map Pl.th) = none := by
  unfold looseT
  exact List.find?_eq_none.2 (fun t ht => by obtain ⟨x, hx, rfl⟩ := List.mem_map.1 ht; have := hF x hx; simp [Pl.th]; omega)
theorem or_in (G : List Pl) (n : Int) : (∃ A p B, G = A ++ p :: B ∧ p.n = n) ∨ ∀ q ∈ G, q.n ≠ n := by
  by_cases h : ∃ p ∈ G, p.n = n
  · obtain ⟨p, hp, e⟩ := h
    obtain ⟨A, B, rfl⟩ := List.append_of_mem hp
    exact .inl ⟨A, p, B, rfl, e⟩
  · exact .inr fun q hq e => h ⟨q, hq, e⟩

/-! ### what a call leaves -/
theorem CacheIs.same {U : Nat} {w w' : World} {c : Nat} {h : Hd} {D : DataW Value} {G : List Pl} {nx pv : Nat → Nat} (k : CacheIs U w c h D G nx pv) (hs : ∀ i, OwnOf c h G i → w'.heap[i]? = w.heap[i]?) : CacheIs U w' c h D G nx pv :=
  { k with
    head := (hs c (.inl rfl)).trans k.head
    ring := k.ring.same fun i hi => hs i (.inr (.inr hi))
    map := k.map.same (hs _ (.inr (.inl rfl))) }
theorem CacheAt.same {U : Nat} {own : Nat → Prop} {w w' : World} {c : Nat} {s : Ca Value} (k : CacheAt U own w c s) (hs : ∀ i, own i → w'.heap[i]? = w.heap[i]?) : CacheAt U own w' c s := by
  obtain ⟨h, D, G, nx, pv, k, e, ho⟩ := k
  exact ⟨h, D, G, nx, pv, k.same fun i hi => hs i ((ho i).2 hi), e, ho⟩
theorem CacheAt.mono {U U' : Nat} {own : Nat → Prop} {w : World} {c : Nat} {s : Ca Value} (k : CacheAt U own w c s) (hU : U ≤ U') : CacheAt U' own w c s := by
  obtain ⟨h, D, G, nx, pv, k, e, ho⟩ := k
  obtain ⟨c1, c2, c3, c4⟩ := k.caps
  exact ⟨h, D, G, nx, pv, { k with caps := ⟨by omega, by omega, by omega, fun p hp => by have := c4 p hp; omega⟩ }, e, ho⟩
theorem CacheIs.lt {U : Nat} {w : World} {c : Nat} {h : Hd} {D : DataW Value} {G : List Pl} {nx pv : Nat → Nat} (k : CacheIs U w c h D G nx pv) {i : Nat} (hi : OwnOf c h G i) : i < w.heap.size := by
  rcases hi with hi | rfl | hi
  · exact k.core.lt (.inl hi)
  · exact k.map.own.lt
  · exact k.core.lt (.inr hi)
theorem CacheAt.lt {U : Nat} {own : Nat → Prop} {w : World} {c : Nat} {s : Ca Value} (k : CacheAt U own w c s) {i : Nat} (hi : own i) : i < w.heap.size := by
  obtain ⟨h, D, G, nx, pv, k, e, ho⟩ := k
  exact k.lt ((ho i).1 hi)
/-- The types of its blocks. -/
theorem CacheAt.typ {U : Nat} {own : Nat → Prop} {w : World} {c : Nat} {s : Ca Value} (k : CacheAt U own w c s) {i : Nat} (hi : own i) {cur : Array Value} {t : TypeId} {z : Nat × Nat} (hc : w.heap[i]? = some (.cells cur t z)) : t = 71 ∨ t = 68 := by
  obtain ⟨h, D, G, nx, pv, k, e, ho⟩ := k
  rcases (ho i).1 hi with rfl | rfl | hi
  · rw [show w.heap[i]? = _ from k.head] at hc
    simp at hc
    exact .inl hc.2.1.symm
  · obtain ⟨es, cl, hb, _⟩ := k.map.own
    rw [hc] at hb
    cases hb
  · obtain ⟨cur', h'⟩ := k.ring.blocks hi
    rw [h'] at hc
    simp at hc
    exact .inr hc.2.1.symm
/-- The cache behind a call. -/
def Next (U : Nat) (own : Nat → Prop) (w : World) (c : Nat) (s : Ca Value) (w' : World) : Prop :=
  ∃ own', CacheAt (U + 1) own' w' c s ∧ (∀ k, own' k → own k ∨ w.heap.size ≤ k) ∧ Kept own w w'
theorem next_mk {U : Nat} {own : Nat → Prop} {w w' : World} {c : Nat} {h h' : Hd} {G G' : List Pl} {D' : DataW Value} (ho : ∀ k, own k ↔ OwnOf c h G k) (k : Core w' c h' G') (m : MapOf w' h'.m D' G') (em : h'.m = h.m) (ee : h'.e = h.e)
    (hb : ∀ p ∈ G', p.b ∈ G.map Pl.b ∨ w.heap.size ≤ p.b) (hk : Kept (fun i => i = h.m ∨ i = c ∨ i ∈ h.e :: G.map Pl.b) w w')
    (nums : (G'.map Pl.n).Nodup) (room : G'.length ≤ h'.places) (places : 1 ≤ h'.places ∧ h'.places ≤ 65536) (rise : (G'.map Pl.used).Pairwise (· < ·)) (top : ∀ p ∈ G', p.used ≤ h'.uses) (typ : ∀ p ∈ G', IsT p.x) (wf : ∀ p ∈ G', (Lit.int .i64 p.n).wf = true)
    (caps : h'.uses ≤ U + 1 ∧ h'.hits ≤ U + 1 ∧ h'.misses ≤ U + 1 ∧ ∀ p ∈ G', p.pins ≤ U + 1) : Next U own w c (h'.ca G') w' := by
  obtain ⟨h1, ⟨nx, pv, hr⟩, h3⟩ := k
  refine ⟨OwnOf c h' G', ⟨h', D', G', nx, pv, ⟨h1, hr, m, nums, room, places, h3, rise, top, typ, wf, caps⟩, rfl, fun _ => Iff.rfl⟩, fun i hi => ?_, hk.mono fun i _ hi => (ho i).2 ?_⟩
  · rw [ho]
    rcases hi with rfl | rfl | hi
    · exact .inl (.inl rfl)
    · exact .inl (.inr (.inl em))
    · rcases List.mem_cons.1 hi with rfl | hi
      · exact .inl (.inr (.inr (by rw [ee]; simp)))
      · obtain ⟨p, hp, rfl⟩ := List.mem_map.1 hi
        rcases hb p hp with hb | hb
        · exact .inl (.inr (.inr (List.mem_cons_of_mem _ hb)))
        · exact .inr hb
  · rcases hi with hi | hi | hi
    · exact .inr (.inl hi)
    · exact .inl hi
    · exact .inr (.inr hi)
/-- One place made the last one, or turned where it stands. -/
theorem next_moved {U : Nat} {own : Nat → Prop} {w w' : World} {c : Nat} {h h' : Hd} {A B : List Pl} {p p' : Pl} {D : DataW Value} {nx pv : Nat → Nat} (hc : CacheIs U w c h D (A ++ p :: B) nx pv) (ho : ∀ k, own k ↔ OwnOf c h (A ++ p :: B) k) (k : Core w' c h' (A ++ B ++ [p']))
    (e0 : h'.places = h.places) (em : h'.m = h.m) (ee : h'.e = h.e) (eu : h'.uses = h.uses + 1) (eh : h'.hits ≤ U + 1 ∧ h'.misses ≤ U + 1) (en : p'.n = p.n) (eb : p'.b = p.b) (ex : IsT p'.x) (ep : p'.pins ≤ U + 1) (eused : p'.used = h.uses + 1)
    (hk : Kept (fun i => i = c ∨ i ∈ h.e :: (A ++ p :: B).map Pl.b) w w') : Next U own w c (h'.ca (A ++ B ++ [p'])) w' := by
  have hap := hc.map.apart hc.core
  have hsub : (A ++ B).Sublist (A ++ p :: B) := List.Sublist.append_left (List.sublist_cons_self _ _) _
  have hin : ∀ q ∈ A ++ B, q ∈ A ++ p :: B := fun q hq => hsub.subset hq
  refine next_mk ho k (D' := D) (by
    rw [em]
    refine (hc.map.same (hk.block _ hc.map.own.lt hap)).perm (by simp) (fun q hq => ?_) (fun q hq => ?_)
    · rcases List.mem_append.1 hq with hq | hq
      · exact ⟨q, hin q hq, rfl, rfl⟩
      · simp at hq
        subst hq
        exact ⟨p, by simp, en.symm, eb.symm⟩
    · simp at hq
      rcases hq with hq | rfl | hq
      · exact ⟨q, by simp [hq], rfl⟩
      · exact ⟨p', by simp, en⟩
      · exact ⟨q, by simp [hq], rfl⟩) em ee (fun q hq => ?_) (hk.mono fun i _ hi => .inr hi) ?_ ?_ (by rw [e0]; exact hc.places) ?_ ?_ ?_ ?_ ?_
  · rcases List.mem_append.1 hq with hq | hq
    · exact .inl (List.mem_map_of_mem (hin q hq))
    · simp at hq
      subst hq
      exact .inl (by rw [eb]; simp)
  · have h1 : (A.map Pl.n ++ p.n :: B.map Pl.n).Nodup := by simpa using hc.nums
    rw [List.map_append, List.map_cons, List.map_nil, en]
    refine List.nodup_append.2 ⟨hc.nums.sublist (hsub.map _), by simp, fun x hx y hy e => ?_⟩
    simp at hy
    obtain ⟨q, hq, rfl⟩ := List.mem_map.1 hx
    exact (find_at hc.nums).2.2 q hq (e.trans hy)
  · have := hc.room
    rw [e0]
    simp at this ⊢
    omega
  · rw [List.map_append, List.pairwise_append]
    refine ⟨hc.rise.sublist (hsub.map _), by simp, fun x hx y hy => ?_⟩
    simp at hy
    obtain ⟨q, hq, rfl⟩ := List.mem_map.1 hx
    have := hc.top q (hin q hq)
    omega
  · intro q hq
    rcases List.mem_append.1 hq with hq | hq
    · have := hc.top q (hin q hq)
      omega
    · simp at hq
      subst hq
      omega
  · intro q hq
    rcases List.mem_append.1 hq with hq | hq
    · exact hc.typ q (hin q hq)
    · simp at hq
      subst hq
      exact ex
  · intro q hq
    rcases List.mem_append.1 hq with hq | hq
    · exact hc.wf q (hin q hq)
    · simp at hq
      subst hq
      rw [en]
      exact hc.wf p (by simp)
  · obtain ⟨c1, c2, c3, c4⟩ := hc.caps
    refine ⟨by omega, eh.1, eh.2, fun q hq => ?_⟩
    rcases List.mem_append.1 hq with hq | hq
    · have := c4 q (hin q hq)
      omega
    · simp at hq
      subst hq
      exact ep
/-- One place more, maybe one less. -/
theorem next_added {U : Nat} {own : Nat → Prop} {w w' : World} {c : Nat} {h h' : Hd} {G G1 : List Pl} {p : Pl} {D D' : DataW Value} {nx pv : Nat → Nat} (hc : CacheIs U w c h D G nx pv) (ho : ∀ k, own k ↔ OwnOf c h G k) (hsub : G1.Sublist G) (k : Core w' c h' (G1 ++ [p])) (m : MapOf w' h.m D' (G1 ++ [p]))
    (e0 : h'.places = h.places) (em : h'.m = h.m) (ee : h'.e = h.e) (eu : h'.uses = h.uses + 1) (eh : h'.hits = h.hits ∧ h'.misses = h.misses) (en : ∀ q ∈ G1, q.n ≠ p.n) (wf : (Lit.int .i64 p.n).wf = true) (eb : w.heap.size ≤ p.b) (ex : IsT p.x) (ep : p.pins = 0) (eused : p.used = h.uses + 1) (hroom : G1.length < h.places)
    (hk : Kept (fun i => i = h.m ∨ i = c ∨ i ∈ h.e :: G.map Pl.b) w w') : Next U own w c (h'.ca (G1 ++ [p])) w' := by
  refine next_mk ho k (by rw [em]; exact m) em ee (fun q hq => ?_) hk ?_ ?_ (by rw [e0]; exact hc.places) ?_ ?_ ?_ ?_ ?_
  · rcases List.mem_append.1 hq with hq | hq
    · exact .inl (List.mem_map_of_mem (hsub.subset hq))
    · simp at hq
      subst hq
      exact .inr eb
  · rw [List.map_append]
    refine List.nodup_append.2 ⟨hc.nums.sublist (hsub.map _), by simp, fun x hx y hy e => ?_⟩
    simp at hy
    obtain ⟨q, hq, rfl⟩ := List.mem_map.1 hx
    exact en q hq (e.trans hy)
  · rw [e0]
    simp
    omega
  · rw [List.map_append, List.pairwise_append]
    refine ⟨hc.rise.sublist (hsub.map _), by simp, fun x hx y hy => ?_⟩
    simp at hy
    obtain ⟨q, hq, rfl⟩ := List.mem_map.1 hx
    have := hc.top q (hsub.subset hq)
    omega
  · intro q hq
    rcases List.mem_append.1 hq with hq | hq
    · have := hc.top q (hsub.subset hq)
      omega
    · simp at hq
      subst hq
      omega
  · intro q hq
    rcases List.mem_append.1 hq with hq | hq
    · exact hc.typ q (hsub.subset hq)
    · simp at hq
      subst hq
      exact ex
  · intro q hq
    rcases List.mem_append.1 hq with hq | hq
    · exact hc.wf q (hsub.subset hq)
    · simp at hq
      subst hq
      exact wf
  · obtain ⟨c1, c2, c3, c4⟩ := hc.caps
    refine ⟨by omega, by omega, by omega, fun q hq => ?_⟩
    rcases List.mem_append.1 hq with hq | hq
    · have := c4 q (hsub.subset hq)
      omega
    · simp at hq
      subst hq
      omega
/-- Nothing but the head's 'from' and counts has turned. -/
theorem next_head {U : Nat} {own : Nat → Prop} {w w' : World} {c : Nat} {h h' : Hd} {G : List Pl} {D : DataW Value} {nx pv : Nat → Nat} (hc : CacheIs U w c h D G nx pv) (ho : ∀ k, own k ↔ OwnOf c h G k) (k : Core w' c h' G)
    (e0 : h'.places = h.places) (em : h'.m = h.m) (ee : h'.e = h.e) (eu : h'.uses = h.uses) (eh : h'.hits ≤ U + 1 ∧ h'.misses ≤ U + 1) (hk : Kept (fun i => i = c) w w') : Next U own w c (h'.ca G) w' := by
  have hap := hc.map.apart hc.core
  obtain ⟨c1, c2, c3, c4⟩ := hc.caps
  exact next_mk ho k (D' := D) (by rw [em]; exact hc.map.same (hk.block _ hc.map.own.lt (fun e => hap (.inl e)))) em ee (fun q hq => .inl (List.mem_map_of_mem hq)) (hk.mono fun i _ hi => .inr (.inl hi)) hc.nums (by rw [e0]; exact hc.room) (by rw [e0]; exact hc.places) hc.rise (fun p hp => by rw [eu]; exact hc.top p hp) hc.typ hc.wf ⟨by omega, eh.1, eh.2, fun q hq => by have := c4 q hq; omega⟩
end Go.Proofs.Yteajgodpdfcioaa
