/- The law's own: lent, stay, pick, shown. -/
import Derived.Test.YtejenfcfngjaaaaChoose
import Derived.Laws.CopyOwn
namespace Go.Proofs.Ytejenfcfngjaaaa
open Go.RowKit

def pickK (c : Int) (n : Nat) : Nat := (if c < 0 then (-(c + 1)).toNat else c.toNat) % n
theorem pick_any (w : World) (c : Int) (n : Nat) (hb : -9223372036854775808 ≤ c ∧ c ≤ 9223372036854775807) (h0 : 0 < n) (hn : n ≤ 140737488355328) :
    Calls Try.prog 13 #[.int .i64 c, .int .i64 n] w fun r w' => r = .returned (.int .i64 (pickK c n : Nat)) ∧ w' = w := by
  have hnz : ((n : Int) == 0) = false := by rw [beq_eq_false_iff_ne]; omega
  by_cases h : c < 0
  · obtain ⟨m, hm⟩ : ∃ m : Nat, -(c + 1) = (m : Int) := ⟨(-(c + 1)).toNat, by omega⟩
    have HP : Hid (pickK c n = m % n) := by unfold pickK; rw [Hid, if_pos h, hm]; rfl
    have hcm : c = -(m : Int) - 1 := by omega
    have hmm : (m : Int).tmod (n : Int) = ((m % n : Nat) : Int) := by rw [Int.tmod_eq_emod_of_nonneg (by omega)]; rfl
    go_enter Try.func13, Try.ntmps13
    go_wp2
    go_ret
    refine ⟨?_, rfl⟩
    rw [HP.out]
    simp
  · obtain ⟨m, rfl⟩ : ∃ m : Nat, c = (m : Int) := ⟨c.toNat, by omega⟩
    have HP : Hid (pickK m n = m % n) := by unfold pickK; rw [Hid, if_neg h]; rfl
    go_enter Try.func13, Try.ntmps13
    go_wp2
    go_ret
    refine ⟨?_, rfl⟩
    rw [HP.out]
    simp

/-- A row of numbers, whole. -/
abbrev RowI (w : World) (g : Nat) (L : List Int) : Prop := w.heap[g]? = some (.cells (L.map encI).toArray 3 (0, 0))
theorem RowI.cell {w : World} {g : Nat} {L : List Int} (h : RowI w g L) (j : Nat) : w.cell? ⟨g, j, none⟩ = (L[j]?).map encI := by
  rw [row_cell h j]; simp
theorem RowI.set {w : World} {g : Nat} {L : List Int} (h : RowI w g L) (j : Nat) (c : Int) : RowI (w.setCell ⟨g, j, none⟩ (.int .i64 c)) g (L.set j c) := by
  unfold RowI
  rw [heap_set_same _ h, List.map_set]
  simp [encI]
theorem RowI.lt {g : Nat} {w : World} {L : List Int} (h : RowI w g L) : g < w.heap.size := (Array.getElem?_eq_some_iff.1 h).1
theorem RowI.here {g : Nat} {w w' : World} {L : List Int} (h : RowI w g L) (hb : Below w.heap.size w w') : RowI w' g L := by
  unfold RowI
  rw [hb.block g h.lt]
  exact h
theorem RowI.ints {g : Nat} {w : World} {L : List Int} (h : RowI w g L) {P : List Int} {c : Nat} (hc : P.length ≤ c) (hp : ∀ (j : Nat) (x : Int), P[j]? = some x → L[j]? = some x) : IntsAt w (.slice (some ⟨g, 0, none⟩) P.length c) P := by
  refine ⟨⟨_, _, rfl, hc, (fun e => by cases e), fun j u hj => ?_⟩, by simp⟩
  rw [List.getElem?_map] at hj
  cases e : P[j]? with
  | none => rw [e] at hj; cases hj
  | some x =>
    rw [e] at hj
    cases hj
    exact ⟨g, 0, rfl, h.lt, by rw [h.cell, Nat.zero_add, hp j x e]; rfl⟩
theorem madeInts (n : Nat) : (madeCells (Value.cells (.int .i64 0)) (n * 1)).toList = List.replicate n (.int .i64 0) := by
  simp only [madeCells, Value.cells, Nat.mul_one]
  apply List.ext_getElem
  · simp
  · intro i h1 h2
    simp [Nat.mod_one]
theorem own_full {w : World} {base g n : Nat} {xs : List Value} (h : w.ownsRow base 3 1 (.slice (some ⟨g, 0, none⟩) n n) n xs) : w.heap[g]? = some (.cells xs.toArray 3 (0, 0)) := by
  obtain ⟨hl, hr⟩ := h
  rcases hr with ⟨e, _⟩ | ⟨g', cap, cur, e, _, hg, _, _, hs, ht⟩
  · cases e
  · cases e
    rw [hg, ← ht, List.take_of_length_le (by simp [hs])]
theorem oneI (bs : List Int) : ∀ v ∈ bs.map encI, v.oneCell' = true := fun v hv => by
  obtain ⟨b, _, rfl⟩ := List.mem_map.1 hv
  rfl
theorem copy_src {w : World} {a : Option Addr} {n c : Nat} {bs : List Int} (hb : IntsAt w (.slice a n c) bs) (g o : Nat) :
    0 < (bs.map encI).length → some (⟨g, o, none⟩ : Addr) = some ⟨g, o, none⟩ ∧ ∃ ad, a = some ad ∧ ∀ (j : Nat) (v : Value), (bs.map encI)[j]? = some v → w.cell? (ad.add j) = some v := by
  intro hpos
  refine ⟨rfl, ?_⟩
  obtain ⟨⟨a', c', e, _, _, h3⟩, _⟩ := hb
  cases e
  obtain ⟨g0, off, e1, _, _⟩ := h3 0 _ (List.getElem?_eq_getElem hpos)
  refine ⟨_, e1, fun j v hv => ?_⟩
  obtain ⟨g', off', e2, _, hcell⟩ := h3 j v hv
  rw [e1] at e2
  cases e2
  rw [add_at]
  exact hcell

/-- What is lent, as far as k marks are laid. -/
def marks : Nat → Nat → List Int
  | _, 0 => []
  | n, k + 1 => (7000 + (n : Int)) :: marks (n + 1) k
theorem marks_length (n k : Nat) : (marks n k).length = k := by
  induction k generalizing n with
  | zero => rfl
  | succ k ih => simp [marks, ih]
theorem marks_at (n k j : Nat) (h : j < k) : (marks n k)[j]? = some (7000 + ((n + j : Nat) : Int)) := by
  induction k generalizing n j with
  | zero => omega
  | succ k ih =>
    cases j with
    | zero => simp [marks]
    | succ j =>
      simp only [marks, List.getElem?_cons_succ]
      rw [ih (n + 1) j (by omega)]
      congr 2
      omega
theorem marks_next (n k : Nat) : marks n (k + 1) = marks n k ++ [7000 + ((n + k : Nat) : Int)] := by
  induction k generalizing n with
  | zero => simp [marks]
  | succ k ih =>
    rw [marks, ih (n + 1)]
    simp only [marks, List.cons_append]
    congr 2
    simp
    omega
def lentL (bs : List Int) (k : Nat) : List Int := bs ++ marks bs.length k ++ List.replicate (3 - k) 0
theorem lentL_length (bs : List Int) (k : Nat) (hk : k ≤ 3) : (lentL bs k).length = bs.length + 3 := by simp [lentL, marks_length]; omega
theorem lentL_next (bs : List Int) (k : Nat) (hk : k < 3) : (lentL bs k).set (bs.length + k) (7000 + ((bs.length + k : Nat) : Int)) = lentL bs (k + 1) := by
  unfold lentL
  have e : 3 - k = (3 - (k + 1)) + 1 := by omega
  rw [e, List.replicate_succ, List.set_append_right _ _ (by simp [marks_length]), marks_next]
  simp [marks_length]
theorem lent_low (bs : List Int) (j : Nat) (x : Int) (h : bs[j]? = some x) : (lentL bs 3)[j]? = some x := by
  unfold lentL
  rw [List.append_assoc, List.getElem?_append_left (List.getElem?_eq_some_iff.1 h).1]
  exact h
theorem lent_high (bs : List Int) (j : Nat) (h : bs.length ≤ j) (h2 : j < bs.length + 3) : (lentL bs 3)[j]? = some (7000 + (j : Int)) := by
  unfold lentL
  rw [List.append_assoc, List.getElem?_append_right h, List.getElem?_append_left (by rw [marks_length]; omega), marks_at _ _ _ (by omega), show bs.length + (j - bs.length) = j by omega]
theorem splice_lent (bs : List Int) : splice (List.replicate (bs.length + 3) (Value.int .i64 0)) 0 (bs.map encI) = (lentL bs 0).map encI := by
  simp [splice, lentL, encI, marks]

set_option maxHeartbeats 1600000 in
set_option maxRecDepth 100000 in
theorem lent_any {w : World} {v : Value} {bs : List Int} (hb : IntsAt w v bs) (hlen : bs.length ≤ 17592186044416) :
    Calls Try.prog 8 #[v] w fun e w' => e = .returned (.slice (some ⟨w.heap.size, 0, none⟩) (bs.length + 3) (bs.length + 3)) ∧ RowI w' w.heap.size (lentL bs 3) ∧ Below w.heap.size w w' := by
  obtain ⟨a, cap, rfl⟩ := hb.form
  obtain ⟨i0, hi, hz0, hz1, hz2⟩ := infoI'
  have hsz5 : (Try.prog.info? 3).map (·.size) = some 1 := by rw [hi]; simp [hz1]
  have HB : Hid (IntsAt w (.slice a bs.length cap) bs) := hb
  clear hb
  have hmin : (bs.map encI).length = Nat.min (bs.length + 3) bs.length := by rw [List.length_map]; exact (Nat.min_eq_right (by omega)).symm
  have hmin2 : (bs.map encI).length = Nat.min bs.length (bs.length + 3) := by rw [List.length_map]; exact (Nat.min_eq_left (by omega)).symm
  have hfit : 0 + (bs.map encI).length ≤ (List.replicate (bs.length + 3) (Value.int .i64 0)).length := by simp
  go_enter Try.func8, Try.ntmps8
  go_wp2_with (first
    | (at_make; refine wpList_make_full _ rfl _ _ 26 rfl w.heap.size 3 i0 (.int .i64 0) 1 Try.underlying26 hi hz0 hz1 _ _ _ _ (bs.length + 3) rfl rfl (by omega) (by omega) (by rw [hz2]; omega) (by unfold maxLen; omega) (Nat.le_refl _) ?_
       intro w0 hown0 hg0
       rw [madeInts] at hown0
       have HR0 : Hid (w0.heap[w.heap.size]? = some (.cells (List.replicate (bs.length + 3) (Value.int .i64 0)).toArray 3 (0, 0))) := own_full hown0
       have HB0 : Hid (Below w.heap.size w w0) := (Below.refl _ _).grown hg0 (Nat.le_refl _) (fun k h => by cases h)
       clear hown0 hg0)
    | (refine wpList_copy_splice rfl _ _ 26 26 rfl 3 Try.underlying26 hsz5 _ _ _ _ _ _ rfl rfl w.heap.size 0 (List.replicate (bs.length + 3) (Value.int .i64 0)) 3 HR0.out (bs.map encI) hmin2 (copy_src (HB.out.here HB0.out) _ _) hfit (oneI bs) w.heap.size w HB0.out (Nat.le_refl _) ?_
       intro w2 hr2 hb2
       have HB2 : Hid (Below w.heap.size w w2) := hb2
       clear hb2))
  rw [splice_lent] at hr2
  have HR2 : Hid (RowI w2 w.heap.size (lentL bs 0)) := hr2.out
  clear hr2 hmin hmin2 hfit hsz5 hi hz0 hz1 hz2
  go_loopw [4] (fun i wr => ∃ k : Nat, k ≤ 3 ∧ i = .int .i64 ((bs.length : Int) + (k : Int)) ∧ RowI wr w.heap.size (lentL bs k) ∧ Below w.heap.size w wr) (fun i _ => bs.length + 3 - (intOf i).toNat)
  case atStart => exact ⟨0, by omega, by simp, HR2.out, HB2.out⟩
  case round =>
    obtain ⟨k, hk, rfl, hrow, hbe⟩ := hrel
    obtain ⟨n, hn⟩ : ∃ n : Nat, (bs.length : Int) + (k : Int) = (n : Int) := ⟨bs.length + k, by omega⟩
    have HN : Hid (n = bs.length + k) := by show _ = _; omega
    rw [hn]
    have hnb : n ≤ 17592186044420 := by omega
    have HR : Hid (RowI wr w.heap.size (lentL bs k)) := hrow
    have HBE : Hid (Below w.heap.size w wr) := hbe
    by_cases hlt : k < 3
    · have hnz : (n : Int) < (bs.length : Int) + 3 := by omega
      have hcell := hrow.cell n
      have hfz : wr.frozen? ⟨w.heap.size, n, none⟩ = false := row_frozen hrow n
      obtain ⟨c, hc⟩ : ∃ c, (lentL bs k)[n]? = some c := ⟨(lentL bs k)[n]'(by rw [lentL_length _ _ hk]; omega), List.getElem?_eq_getElem _⟩
      rw [hc] at hcell
      clear hrow hbe hc hn
      go_wp2
      have hset := HR.out.set n (7000 + (n : Int))
      rw [show (lentL bs k).set n (7000 + (n : Int)) = lentL bs (k + 1) by rw [← lentL_next bs k hlt, HN.out]] at hset
      refine ⟨⟨k + 1, by omega, ?_, hset, HBE.out.setCell (Nat.le_refl _) _⟩, by simp [intOf]; omega⟩
      have := HN.out
      congr 1
      omega
    · obtain rfl : k = 3 := by omega
      have hnz : ¬ ((n : Int) < (bs.length : Int) + 3) := by omega
      clear hrow hbe hn
      go_wp2
      go_ret
      exact ⟨rfl, HR.out, HBE.out⟩
set_option maxHeartbeats 1600000 in
set_option maxRecDepth 100000 in
theorem stay_any {w : World} {v : Value} {bs : List Int} {g : Nat} (hb : IntsAt w v bs) (hr : RowI w g (lentL bs 3)) (hlen : bs.length ≤ 17592186044416) :
    Calls Try.prog 12 #[.slice (some ⟨g, 0, none⟩) (bs.length + 3) (bs.length + 3), v] w fun e w' => e = .returned (.bool true) ∧ ∃ n, w' = w.drewN n := by
  obtain ⟨a, cap, rfl⟩ := hb.form
  have HB : Hid (IntsAt w (.slice a bs.length cap) bs) := hb
  have HR : Hid (RowI w g (lentL bs 3)) := hr
  clear hb hr
  go_enter Try.func12, Try.ntmps12
  go_wp2_with fail
  go_loopw [5] (fun i wr => ∃ k : Nat, k ≤ bs.length + 3 ∧ i = .int .i64 (k : Int) ∧ ∃ n, wr = w.drewN n) (fun i _ => bs.length + 3 - (intOf i).toNat)
  case atStart => exact ⟨0, by omega, rfl, 0, rfl⟩
  case round =>
    obtain ⟨k, hk, rfl, n, rfl⟩ := hrel
    by_cases hlt : k < bs.length + 3
    · have hkz : (k : Int) < (bs.length : Int) + 3 := by omega
      have hcell := HR.out.cell k
      by_cases hlo : k < bs.length
      · have hlz : (k : Int) < (bs.length : Int) := by omega
        have hlz2 : decide (bs.length ≤ k) = false := decide_eq_false (by omega)
        have hlz3 : ¬ bs.length ≤ k := by omega
        obtain ⟨x, hx⟩ : ∃ x, bs[k]? = some x := ⟨_, List.getElem?_eq_getElem hlo⟩
        rw [lent_low bs k x hx] at hcell
        have hc1 : w.cell? ⟨g, k, none⟩ = some (.int .i64 x) := hcell
        obtain ⟨gb, ob, rfl, hgb, k0⟩ := ints_cell HB.out hx
        have hxx : (x != x) = false := by simp
        clear hx hcell
        go_wp2_with fail
        go_quiet (fail)
        go_wp2_with fail
        exact ⟨⟨k + 1, by omega, by go_num, _, rfl⟩, by simp [intOf]; omega⟩
      · have hlz : ¬ (k : Int) < (bs.length : Int) := by omega
        have hlz2 : (k : Int) ≥ (bs.length : Int) := by omega
        rw [lent_high bs k (by omega) hlt] at hcell
        have hc1 : w.cell? ⟨g, k, none⟩ = some (.int .i64 (7000 + (k : Int))) := hcell
        clear hcell
        go_wp2_with fail
        go_quiet (fail)
        go_wp2_with fail
        exact ⟨⟨k + 1, by omega, by go_num, _, rfl⟩, by simp [intOf]; omega⟩
    · have hkz : ¬ (k : Int) < (bs.length : Int) + 3 := by omega
      go_wp2_with fail
      go_ret
      exact ⟨rfl, _, rfl⟩
def exW : List Int := [1, 0, 4]
def exR : Ch := ⟨2, [], -1, 0⟩
theorem ex_one : nextC exR exW = ⟨2, [], 0, 1⟩ := rfl
theorem ex_two : nextC ⟨2, [], 0, 1⟩ exW = ⟨2, [], 2, 2⟩ := rfl
theorem ints_exW {w : World} {g : Nat} (h : w.heap[g]? = some (.cells #[.int .i64 1, .int .i64 0, .int .i64 4] 3 (0, 0))) : IntsAt w (.slice (some ⟨g, 0, none⟩) 3 3) exW :=
  RowI.ints (L := exW) h (P := exW) (Nat.le_refl _) (fun _ _ h => h)
set_option maxHeartbeats 1600000 in
set_option maxRecDepth 100000 in
theorem shown_any (w : World) : Calls Try.prog 7 #[] w fun e w' => e = .returned (.bool true) ∧ Below w.heap.size w w' := by
  have HN := new_any (w := w) (kind := 2) (pv := .slice none 0 0) (picks := []) (RowAt.own (World.ownsRow_nil w 0 3 1)) (by simp)
  go_enter Try.func7, Try.ntmps7
  go_wp2_with fail
  refine HN.mono ?_
  rintro e w1 ⟨b, v, rfl, hb, hc⟩
  have hc1 := hc rfl
  rw [show okP 2 [] = true from rfl, show polE 2 [] = 0 from rfl, show ptrIf true b = .pointer (some ⟨b, 0, none⟩) from rfl]
  have HC1 : Hid _ := hc1
  have HB1 : Hid _ := hb
  clear hc hb HN hc1
  go_wp2_with fail
  have hx1 := heap_alloc_last w1 (.cells #[.int .i64 1, .int .i64 0, .int .i64 4] 3)
  refine (choose_any (HC1.out.here (below_new w1 _)) (ints_exW hx1) (by decide) (by decide)).mono ?_
  rintro e w2 ⟨rfl, hc2, hk2⟩
  rw [show nextC ⟨2, [], -1, 0⟩ exW = ⟨2, [], 0, 1⟩ from ex_one] at hc2
  rw [show ansI ⟨2, [], -1, 0⟩ exW = 0 from rfl, show ansE exW = 0 from rfl]
  have HC2 : Hid _ := hc2
  have HB2 : Hid (Below w.heap.size w w2) := Kept.below (HB1.out.trans ((below_new w1 _).mono HB1.out.size)) hk2 (Nat.le_trans HB1.out.size (below_new w1 _).size) (fun i e => by rw [e]; exact HC1.out.low)
  clear hc2 hk2 hx1
  go_wp2_with fail
  have hx2 := heap_alloc_last w2 (.cells #[.int .i64 1, .int .i64 0, .int .i64 4] 3)
  refine (choose_any (HC2.out.here (below_new w2 _)) (ints_exW hx2) (by decide) (by decide)).mono ?_
  rintro e w3 ⟨rfl, hc3, hk3⟩
  rw [show nextC ⟨2, [], 0, 1⟩ exW = ⟨2, [], 2, 2⟩ from ex_two] at hc3
  rw [show ansI ⟨2, [], 0, 1⟩ exW = 2 from rfl, show ansE exW = 0 from rfl]
  have HC3 : Hid _ := hc3
  have HB3 : Hid (Below w.heap.size w w3) := Kept.below (HB2.out.trans ((below_new w2 _).mono HB2.out.size)) hk3 (Nat.le_trans HB2.out.size (below_new w2 _).size) (fun i e => by rw [e]; exact HC1.out.low)
  clear hc3 hk3 hx2
  go_wp2_with fail
  refine (count_any HC3.out).mono ?_
  rintro e w4 ⟨rfl, hw4⟩
  obtain rfl := hw4.symm
  go_wp2_with fail
  go_ret
  exact ⟨rfl, HB3.out⟩
end Go.Proofs.Ytejenfcfngjaaaa
