/- The document's Get, Put, Drop, Pin, Unpin. -/
import Derived.Test.YteajgodpdfcioaaRef
namespace Go.Proofs.Yteajgodpdfcioaa
open Go.RowKit

theorem th_or (L : List (Th Int)) (n : Int) : (∃ A t B, L = A ++ t :: B ∧ t.n = n) ∨ ∀ t ∈ L, t.n ≠ n := by
  by_cases h : ∃ t ∈ L, t.n = n
  · obtain ⟨p, hp, e⟩ := h
    obtain ⟨A, B, rfl⟩ := List.append_of_mem hp
    exact .inl ⟨A, p, B, rfl, e⟩
  · exact .inr fun q hq e => h ⟨q, hq, e⟩
theorem th_at {A B : List (Th Int)} {t : Th Int} (h : ((A ++ t :: B).map Th.n).Nodup) : findI t.n (A ++ t :: B) = (A.length : Int) ∧ findT t.n (A ++ t :: B) = some t ∧ outT t.n (A ++ t :: B) = A ++ B ∧ (A ++ t :: B).eraseIdx A.length = A ++ B ∧ (A ++ t :: B)[A.length]? = some t ∧ ∀ q ∈ A ++ B, q.n ≠ t.n := by
  have h1 : (A.map Th.n ++ t.n :: B.map Th.n).Nodup := by simpa using h
  obtain ⟨_, d2, d3⟩ := List.nodup_append.1 h1
  have ha : ∀ q ∈ A, q.n ≠ t.n := fun q hq => d3 q.n (List.mem_map_of_mem hq) t.n (by simp)
  have hb : ∀ q ∈ B, q.n ≠ t.n := fun q hq e => (List.nodup_cons.1 d2).1 (e ▸ List.mem_map_of_mem hq)
  refine ⟨?_, find_mem h (by simp), ?_, by rw [List.eraseIdx_append_of_length_le (Nat.le_refl _), Nat.sub_self]; rfl, by simp, fun q hq => (List.mem_append.1 hq).elim (ha q) (hb q)⟩
  · unfold findI
    have : (A ++ t :: B).findIdx? (fun x => x.n == t.n) = some A.length := by
      rw [List.findIdx?_eq_some_iff_getElem]
      refine ⟨by simp, by simp, fun j hj => ?_⟩
      rw [List.getElem_append_left (by omega)]
      simpa using ha _ (List.getElem_mem _)
    rw [this]
  · unfold outT
    rw [List.filter_append, List.filter_cons_of_neg (by simp), List.filter_eq_self.2 (fun q hq => by simpa using ha q hq), List.filter_eq_self.2 (fun q hq => by simpa using hb q hq)]
theorem th_not {L : List (Th Int)} {n : Int} (h : ∀ t ∈ L, t.n ≠ n) : findI n L = -1 ∧ findT n L = none ∧ outT n L = L := by
  refine ⟨?_, ?_, ?_⟩
  · unfold findI
    have : L.findIdx? (fun x => x.n == n) = none := by
      rw [List.findIdx?_eq_none_iff]
      intro t ht
      simpa using h t ht
    rw [this]
  · unfold findT
    exact List.find?_eq_none.2 fun t ht => by simpa using h t ht
  · unfold outT
    exact List.filter_eq_self.2 fun t ht => by simpa using h t ht
theorem rnext_mk {U : Nat} {own : Nat → Prop} {w w' : World} {b : Nat} {lv lv' : Value} {s' : Ca Int} (ho : ∀ k, own k ↔ (k = b ∨ lv.ownBlock = some k)) (h : RefIs (U + 1) w' b lv' s') (hv : ∀ k, lv'.ownBlock = some k → lv.ownBlock = some k ∨ w.heap.size ≤ k) (hk : Kept (fun k => k = b ∨ lv.ownBlock = some k) w w') : RNext U own w b s' w' :=
  ⟨fun k => k = b ∨ lv'.ownBlock = some k, ⟨lv', h, fun _ => Iff.rfl⟩, fun k hk => by
    rw [ho]
    rcases hk with hk | hk
    · exact .inl (.inl hk)
    · exact (hv k hk).imp .inr id, hk.mono fun i _ hi => (ho i).2 hi⟩
theorem RefIs.mono {U U' : Nat} {w : World} {b : Nat} {lv : Value} {s : Ca Int} (h : RefIs U w b lv s) (hU : U ≤ U') : RefIs U' w b lv s := by
  obtain ⟨c1, c2, c3⟩ := h.caps
  exact { h with caps := ⟨by omega, by omega, fun t ht => by have := c3 t ht; omega⟩ }
theorem RefIs.same {U : Nat} {w w' : World} {b : Nat} {lv : Value} {s : Ca Int} (h : RefIs U w b lv s) (hs : ∀ k, k = b ∨ lv.ownBlock = some k → w'.heap[k]? = w.heap[k]?) : RefIs U w' b lv s :=
  { h with cells := (hs b (.inl rfl)).trans h.cells, row := own_same h.row fun k hk _ => hs k (.inr hk) }
theorem RefIs.apart {U : Nat} {w : World} {b : Nat} {lv : Value} {s : Ca Int} (h : RefIs U w b lv s) : lv.ownBlock ≠ some b := fun e => by
  obtain ⟨_, _, cur, hc⟩ := own_type h.row b e
  rw [h.cells] at hc
  simp at hc
set_option maxRecDepth 100000 in
theorem refDrop_any {U : Nat} {own : Nat → Prop} {w : World} {b : Nat} {s : Ca Int} (h : RefAt U own w b s) (n : Int) : Calls Try.prog 41 #[ptr b, .int .i64 n] w fun r w' => r = .returned (.bool (s.has n)) ∧ RNext U own w b (s.drop n) w' := by
  obtain ⟨lv, h, ho⟩ := h
  have HF := refFind_any h n
  rcases th_or s.L n with ⟨A, t, B, hL, rfl⟩ | hno
  · have hnum := h.nums
    rw [hL] at hnum
    obtain ⟨f1, f2, f3, f4, f5, f6⟩ := th_at hnum
    have hlen : A.length < s.L.length := by rw [hL]; simp
    have HO := refOut_any h hlen
    rw [hL, f1] at HF
    have e1 : s.has t.n = true := by unfold Ca.has; rw [hL, f2]; rfl
    rw [e1]
    have HE : Hid (∀ w' lv', NewT w.heap.size w' lv' (s.L.eraseIdx A.length) → w'.heap[b]? = some (.cells #[.int .i64 (s.places : Int), .int .i64 (s.hits : Int), .int .i64 (s.misses : Int), lv'] 64 (0, 0)) → Kept (fun k => k = b) w w' → RNext U own w b (s.drop t.n) w') := fun w' lv' r1 r2 r3 => by
      have e2 : s.drop t.n = { s with L := A ++ B } := by unfold Ca.drop; rw [hL, f3]
      rw [hL, f4] at r1
      rw [e2]
      obtain ⟨c1, c2, c3⟩ := h.caps
      have hsub : (A ++ B).Sublist s.L := by rw [hL]; exact List.Sublist.append_left (List.sublist_cons_self _ _) _
      exact rnext_mk ho ⟨r2, own_mono r1 (Nat.zero_le _), h.nums.sublist (hsub.map _), Nat.le_trans hsub.length_le h.room, h.places, ⟨by show s.hits ≤ _; omega, by show s.misses ≤ _; omega, fun q hq => by have := c3 q (hsub.subset hq); omega⟩⟩ (fun k hk => .inr (own_type r1 k hk).2.1) (r3.mono fun i _ e => .inl e)
    have HFH : Hid (Calls Try.prog 48 #[ptr b, .int .i64 t.n] w fun r w' => r = .returned (.int .i64 (A.length : Int)) ∧ w' = w) := HF
    have HOH : Hid (Calls Try.prog 49 #[ptr b, .int .i64 (A.length : Int)] w fun r w' => r = .returned (.tuple #[]) ∧ ∃ lv', NewT w.heap.size w' lv' (s.L.eraseIdx A.length) ∧ w'.heap[b]? = some (.cells #[.int .i64 (s.places : Int), .int .i64 (s.hits : Int), .int .i64 (s.misses : Int), lv'] 64 (0, 0)) ∧ Kept (fun k => k = b) w w') := HO
    have hz : (0 : Int) ≤ (A.length : Int) := by omega
    clear HF HO h ho f1 f2 f3 f4 f5 f6 e1 hnum hlen
    go_enter Try.func41, Try.ntmps41
    go_wp2_with fail
    refine Calls.mono HFH.out ?_
    rintro r w1 ⟨rfl, hw1⟩
    obtain rfl := hw1.symm
    clear hw1 HFH
    go_wp2_with fail
    refine Calls.mono HOH.out ?_
    rintro r w2 ⟨rfl, lv', r1, r2, r3⟩
    have HX : Hid (RNext U own w b (s.drop t.n) w2) := HE.out w2 lv' r1 r2 r3
    clear HOH r1 r2 r3 HE
    go_wp2_with fail
    go_ret
    exact ⟨rfl, HX.out⟩
  · obtain ⟨f1, f2, f3⟩ := th_not hno
    rw [f1] at HF
    have e1 : s.has n = false := by unfold Ca.has; rw [f2]; rfl
    have e2 : s.drop n = s := by unfold Ca.drop; rw [f3]
    rw [e1, e2]
    have HX : Hid (RNext U own w b s w) := rnext_mk ho (h.mono (Nat.le_succ _)) (fun k hk => .inl hk) (Kept.refl _ _)
    have HFH : Hid (Calls Try.prog 48 #[ptr b, .int .i64 n] w fun r w' => r = .returned (.int .i64 (-1)) ∧ w' = w) := HF
    clear HF h ho f1 f2 f3 e1 e2 hno
    go_enter Try.func41, Try.ntmps41
    go_wp2_with fail
    refine Calls.mono HFH.out ?_
    rintro r w1 ⟨rfl, hw1⟩
    obtain rfl := hw1.symm
    clear hw1 HFH
    go_wp2_with fail
    go_ret
    exact ⟨rfl, HX.out⟩
/-- Pins written over at one place. -/
theorem rnext_pins {U : Nat} {own : Nat → Prop} {w : World} {b g c : Nat} {A B : List (Th Int)} {t : Th Int} {s : Ca Int} {p : Nat} (h : RefIs U w b (.slice (some ⟨g, 0, none⟩) s.L.length c) s) (ho : ∀ k, own k ↔ (k = b ∨ (Value.slice (some ⟨g, 0, none⟩) s.L.length c).ownBlock = some k)) (hL : s.L = A ++ t :: B) (hp : p ≤ U + 1) :
    RNext U own w b { s with L := A ++ { t with pins := p } :: B } (w.setCell ⟨g, A.length * 3 + 2, none⟩ (.int .i64 (p : Int))) := by
  have hap := h.apart
  have hgb : g ≠ b := fun e => hap (by rw [e]; rfl)
  have hset : s.L.set A.length { t with pins := p } = A ++ { t with pins := p } :: B := by rw [hL]; simp
  have h1 := own_set h.row (A.length * 3 + 2) (.int .i64 (p : Int))
  rw [flatT_set (u := t) (by rw [hL]; simp) p, hset] at h1
  have hlen : (A ++ { t with pins := p } :: B).length = s.L.length := by rw [hL]; simp
  obtain ⟨c1, c2, c3⟩ := h.caps
  refine rnext_mk ho (lv' := .slice (some ⟨g, 0, none⟩) s.L.length c) ⟨(set_far0 _ (Ne.symm hgb)).trans h.cells, ?_, ?_, ?_, h.places, ⟨by show s.hits ≤ _; omega, by show s.misses ≤ _; omega, fun q hq => ?_⟩⟩ (fun k hk => .inl hk) ((setCell_kept _).mono (fun i _ e => .inr (by rw [e]; rfl)))
  · show (w.setCell _ _).ownsRow _ _ _ _ (A ++ { t with pins := p } :: B).length _
    rw [hlen]
    exact h1
  · have := h.nums
    rw [hL] at this
    simpa using this
  · show (A ++ { t with pins := p } :: B).length ≤ s.places
    rw [hlen]
    exact h.room
  · simp at hq
    rcases hq with hq | rfl | hq
    · have := c3 q (by rw [hL]; simp [hq]); omega
    · exact hp
    · have := c3 q (by rw [hL]; simp [hq]); omega
theorem map_at {A B : List (Th Int)} {t : Th Int} (hne : ∀ q ∈ A ++ B, q.n ≠ t.n) (g : Th Int → Th Int) : (A ++ t :: B).map (fun x => if x.n = t.n then g x else x) = A ++ g t :: B := by
  have hm : ∀ L : List (Th Int), (∀ q ∈ L, q.n ≠ t.n) → L.map (fun x => if x.n = t.n then g x else x) = L := fun L hL => by
    conv => rhs; rw [← List.map_id L]
    refine List.map_congr_left (fun q hq => ?_)
    simp [hL q hq]
  rw [List.map_append, List.map_cons, hm A (fun q hq => hne q (by simp [hq])), hm B (fun q hq => hne q (by simp [hq]))]
  simp
theorem map_not {L : List (Th Int)} {n : Int} (hne : ∀ q ∈ L, q.n ≠ n) (g : Th Int → Th Int) : L.map (fun x => if x.n = n then g x else x) = L := by
  conv => rhs; rw [← List.map_id L]
  refine List.map_congr_left (fun q hq => ?_)
  simp [hne q hq]
set_option maxHeartbeats 400000 in
set_option maxRecDepth 100000 in
theorem refPin_any {U : Nat} {own : Nat → Prop} {w : World} {b : Nat} {s : Ca Int} (h : RefAt U own w b s) (n : Int) (hU : U < 4611686018427387904) : Calls Try.prog 43 #[ptr b, .int .i64 n] w fun r w' => r = .returned (.bool (s.has n)) ∧ RNext U own w b (s.pin n) w' := by
  obtain ⟨lv, h, ho⟩ := h
  have HF := refFind_any h n
  rcases th_or s.L n with ⟨A, t, B, hL, rfl⟩ | hno
  · have hnum := h.nums
    rw [hL] at hnum
    obtain ⟨f1, f2, f3, f4, f5, f6⟩ := th_at hnum
    rw [hL, f1] at HF
    have e1 : s.has t.n = true := by unfold Ca.has; rw [hL, f2]; rfl
    rw [e1]
    obtain ⟨a, c, rfl⟩ := own_slice h.row
    obtain ⟨g, rfl, _, hg, t0, t1, t2, tf⟩ := th_cell h.row (by rw [hL]; exact f5)
    have c3 : w.cell? ⟨b, 3, none⟩ = some (.slice (some ⟨g, 0, none⟩) s.L.length c) := by rw [row_cell h.cells]; rfl
    have hpb : (t.pins : Int) < 4611686018427387904 := by have := h.caps.2.2 t (by rw [hL]; simp); omega
    have HX : Hid (RNext U own w b (s.pin t.n) (w.setCell ⟨g, A.length * 3 + 2, none⟩ (.int .i64 ((t.pins : Int) + 1)))) := by
      have hres := rnext_pins h ho hL (p := t.pins + 1) (by have := h.caps.2.2 t (by rw [hL]; simp); omega)
      have e2 : s.pin t.n = { s with L := A ++ { t with pins := t.pins + 1 } :: B } := by
        unfold Ca.pin
        rw [hL, map_at f6 (fun x => { x with pins := x.pins + 1 })]
      rw [e2]
      exact hres
    have HFH : Hid (Calls Try.prog 48 #[ptr b, .int .i64 t.n] w fun r w' => r = .returned (.int .i64 (A.length : Int)) ∧ w' = w) := HF
    have hz : (0 : Int) ≤ (A.length : Int) := by omega
    have hz2 : (A.length : Int) < (s.L.length : Int) := by rw [hL]; simp; omega
    have hz3 : (A.length : Int) ≤ 65536 := by have h1 := h.room; have h2 := h.places.2; omega
    clear HF h ho f1 f2 f3 f4 f5 f6 e1 hnum hL
    go_enter Try.func43, Try.ntmps43
    go_wp2_with fail
    refine Calls.mono HFH.out ?_
    rintro r w1 ⟨rfl, hw1⟩
    obtain rfl := hw1.symm
    clear hw1 HFH
    go_wp2_with fail
    go_ret
    exact ⟨rfl, HX.out⟩
  · obtain ⟨f1, f2, f3⟩ := th_not hno
    rw [f1] at HF
    have e1 : s.has n = false := by unfold Ca.has; rw [f2]; rfl
    have e2 : s.pin n = s := by unfold Ca.pin; rw [map_not hno]
    rw [e1, e2]
    have HX : Hid (RNext U own w b s w) := rnext_mk ho (h.mono (Nat.le_succ _)) (fun k hk => .inl hk) (Kept.refl _ _)
    have HFH : Hid (Calls Try.prog 48 #[ptr b, .int .i64 n] w fun r w' => r = .returned (.int .i64 (-1)) ∧ w' = w) := HF
    clear HF h ho f1 f2 f3 e1 e2 hno
    go_enter Try.func43, Try.ntmps43
    go_wp2_with fail
    refine Calls.mono HFH.out ?_
    rintro r w1 ⟨rfl, hw1⟩
    obtain rfl := hw1.symm
    clear hw1 HFH
    go_wp2_with fail
    go_ret
    exact ⟨rfl, HX.out⟩
end Go.Proofs.Yteajgodpdfcioaa
