/- The document's cache: its memory; New, find, out, Numbers. -/
import Derived.Test.YteajgodpdfcioaaBase
import Derived.Test.YteajgodpdfcioaaHeldP
import Derived.Test.YteajgodpdfcioaaSame
namespace Go.Proofs.Yteajgodpdfcioaa
open Go.RowKit

def encT (t : Th Int) : List Value := [.int .i64 t.n, .int .i64 t.x, .int .i64 (t.pins : Int)]
def flatT (L : List (Th Int)) : List Value := L.flatMap encT
theorem flatT_cons (u : Th Int) (L : List (Th Int)) : flatT (u :: L) = .int .i64 u.n :: .int .i64 u.x :: .int .i64 (u.pins : Int) :: flatT L := by simp [flatT, encT]
theorem flatT_append (L M : List (Th Int)) : flatT (L ++ M) = flatT L ++ flatT M := by simp [flatT]
theorem flatT_length (L : List (Th Int)) : (flatT L).length = L.length * 3 := by
  induction L with
  | nil => rfl
  | cons r L ih => rw [flatT_cons]; simp [ih]; omega
theorem flatT_at {L : List (Th Int)} {k : Nat} {u : Th Int} (h : L[k]? = some u) : (flatT L)[k * 3]? = some (.int .i64 u.n) ∧ (flatT L)[k * 3 + 1]? = some (.int .i64 u.x) ∧ (flatT L)[k * 3 + 2]? = some (.int .i64 (u.pins : Int)) := by
  induction L generalizing k with
  | nil => simp at h
  | cons q L ih =>
    rw [flatT_cons]
    rcases k with _ | k
    · simp at h; subst h; simp
    · have := ih (k := k) (by simpa using h)
      rw [show (k + 1) * 3 = k * 3 + 1 + 1 + 1 by omega]
      simpa using this
theorem flatT_set {L : List (Th Int)} {k : Nat} {u : Th Int} (h : L[k]? = some u) (p : Nat) : (flatT L).set (k * 3 + 2) (.int .i64 (p : Int)) = flatT (L.set k { u with pins := p }) := by
  induction L generalizing k with
  | nil => simp at h
  | cons q L ih =>
    rcases k with _ | k
    · simp at h; subst h
      simp [flatT_cons]
    · have := ih (k := k) (by simpa using h)
      rw [show (k + 1) * 3 + 2 = (k * 3 + 2) + 1 + 1 + 1 by omega]
      simp [flatT_cons, this]
abbrev NewT (base : Nat) (w : World) (v : Value) (L : List (Th Int)) : Prop := w.ownsRow base 89 3 v L.length (flatT L)
theorem infoT : ∃ i, Try.prog.info? 89 = some i ∧ i.zero = some (.agg #[.int .i64 0, .int .i64 0, .int .i64 0]) ∧ i.size = 3 ∧ i.bytes = 24 := by
  have h : (Try.prog.info? 89).map (fun i => (i.zero, i.size, i.bytes)) = some (some (.agg #[.int .i64 0, .int .i64 0, .int .i64 0]), 3, 24) := by kernel_rfl
  cases hi : Try.prog.info? 89 with
  | none => rw [hi] at h; simp at h
  | some i => rw [hi] at h; simp at h; exact ⟨i, rfl, h⟩
theorem encT_one (r : Th Int) : ∀ u ∈ encT r, u.oneCell' = true := fun u hu => by simp [encT] at hu; rcases hu with rfl | rfl | rfl <;> rfl
/-- A thing put behind others. -/
theorem wpList_append_th {w : World} {ops : Array Oper} {rest : List Oper} {o : Oper} {a : Act} {Q : Exit → Act → World → Prop} (hgd : o.guard = none) (s x : Operand)
    (ho : o.op = .call { callee := .builtin .append, args := #[s, x], argTypes := #[62, 62] }) (base : Nat)
    (v : Value) (L : List (Th Int)) (r : Th Int) (hs : a.eval s = v) (hv : NewT base w v L) (g : Nat) (hx : a.eval x = .slice (some ⟨g, 0, none⟩) 1 1)
    (h0 : w.heap[g]? = some (.cells #[.int .i64 r.n, .int .i64 r.x, .int .i64 (r.pins : Int)] 89 (0, 0)))
    (hlen : (L.length + 1) * 24 ≤ 140737488355328) (hbase : base ≤ w.heap.size)
    (h : ∀ v' w', NewT base w' v' (L ++ [r]) → w.grownBy w' v.ownBlock → Keep 89 base w w' → wpList Try.prog ops Q rest (a.put o.dst v') w') : wpList Try.prog ops Q (o :: rest) a w := by
  obtain ⟨i0, hi, hz0, hz1, hz2⟩ := infoT
  refine wpList_append_own w hgd s x 62 ho base 89 i0 _ 3 24 Try.underlying62 hi hz0 hz1 hz2 rfl (by decide) _ _ _ hs hv ⟨g, 0, none⟩ 1 1 (encT r) hx rfl ?_ (encT_one r) (by unfold maxLen; omega) hlen hbase ?_
  · intro j u hj
    rw [add_at, Nat.zero_add, row_cell h0, ← Array.getElem?_toList]
    exact hj
  · intro v' w' hown hgr _
    refine h v' w' ?_ hgr (Keep.grown hv hgr hbase)
    show w'.ownsRow base 89 3 v' (L ++ [r]).length (flatT (L ++ [r]))
    rw [List.length_append, flatT_append]
    exact hown
theorem th_cell {base c : Nat} {w : World} {a : Option Addr} {L : List (Th Int)} {k : Nat} {u : Th Int} (h : NewT base w (.slice a L.length c) L) (hk : L[k]? = some u) : ∃ g, a = some ⟨g, 0, none⟩ ∧ base ≤ g ∧ g < w.heap.size ∧ w.cell? ⟨g, k * 3, none⟩ = some (.int .i64 u.n) ∧ w.cell? ⟨g, k * 3 + 1, none⟩ = some (.int .i64 u.x) ∧ w.cell? ⟨g, k * 3 + 2, none⟩ = some (.int .i64 (u.pins : Int)) ∧ w.frozen? ⟨g, k * 3 + 2, none⟩ = false := by
  have hl := (List.getElem?_eq_some_iff.1 hk).1
  obtain ⟨f1, f2, f3⟩ := flatT_at hk
  rcases own_row h with ⟨_, h0⟩ | ⟨g, c', e, hb, hg, hc⟩
  · omega
  · injection e with e1 e2 e3
    subst e1
    obtain ⟨_, hbase, cur, hcur⟩ := own_type h g rfl
    exact ⟨g, rfl, hb, hg, hc _ _ f1, hc _ _ f2, hc _ _ f3, row_frozen hcur _⟩
/-- The document's cache at a block. -/
structure RefIs (U : Nat) (w : World) (b : Nat) (lv : Value) (s : Ca Int) : Prop where
  cells : w.heap[b]? = some (.cells #[.int .i64 (s.places : Int), .int .i64 (s.hits : Int), .int .i64 (s.misses : Int), lv] 64 (0, 0))
  row : NewT 0 w lv s.L
  nums : (s.L.map Th.n).Nodup
  room : s.L.length ≤ s.places
  places : 1 ≤ s.places ∧ s.places ≤ 65536
  caps : s.hits ≤ U ∧ s.misses ≤ U ∧ ∀ t ∈ s.L, t.pins ≤ U
def RefAt (U : Nat) (own : Nat → Prop) (w : World) (b : Nat) (s : Ca Int) : Prop := ∃ lv, RefIs U w b lv s ∧ ∀ k, own k ↔ (k = b ∨ lv.ownBlock = some k)
theorem set_far0 {w : World} {b i k : Nat} (v : Value) (hk : k ≠ b) : (w.setCell ⟨b, i, none⟩ v).heap[k]? = w.heap[k]? := by simp [World.setCell, Array.getElem?_modify, Ne.symm hk]
def RNext (U : Nat) (own : Nat → Prop) (w : World) (b : Nat) (s : Ca Int) (w' : World) : Prop :=
  ∃ own', RefAt (U + 1) own' w' b s ∧ (∀ k, own' k → own k ∨ w.heap.size ≤ k) ∧ Kept own w w'
theorem refNew_ok (w : World) (n : Nat) (h1 : 1 ≤ n) (h2 : n ≤ 65536) : Calls Try.prog 36 #[.int .i64 (n : Int)] w fun r w' => r = .returned (.tuple #[ptr w.heap.size, .int .i64 0]) ∧ RefAt 0 (fun k => k = w.heap.size) w' w.heap.size ⟨n, 0, 0, []⟩ ∧ Below w.heap.size w w' ∧ w'.heap.size = w.heap.size + 1 := by
  have hb1 : ¬ ((n : Int) < 1) := by omega
  have hb2 : ¬ ((65536 : Int) < (n : Int)) := by omega
  have HK : Hid (1 ≤ n ∧ n ≤ 65536) := ⟨h1, h2⟩
  clear h1 h2
  go_enter Try.func36, Try.ntmps36
  go_wp2
  go_ret2
  exact ⟨rfl, ⟨.slice none 0 0, ⟨heap_alloc_last w _, World.ownsRow_nil _ _ _ _, by simp, Nat.zero_le _, HK.out, ⟨Nat.le_refl _, Nat.le_refl _, fun t ht => (by cases ht)⟩⟩, fun k => ⟨fun h => .inl h, fun h => h.elim id (fun h => by cases h)⟩⟩, below_new w _, by simp⟩
theorem refNew_bad (w : World) (n : Int) (h : n < 1 ∨ 65536 < n) : Calls Try.prog 36 #[.int .i64 n] w fun r w' => r = .returned (.tuple #[.pointer none, .int .i64 1]) ∧ w' = w := by
  rcases h with h | h
  · go_enter Try.func36, Try.ntmps36
    go_wp2
    go_ret2
    exact ⟨rfl, rfl⟩
  · have h' : ¬ n < 1 := by omega
    go_enter Try.func36, Try.ntmps36
    go_wp2
    go_ret2
    exact ⟨rfl, rfl⟩
/-- The place of a number, or -1. -/
def findI (n : Int) (L : List (Th Int)) : Int := match L.findIdx? fun t => t.n == n with
  | some i => (i : Int)
  | none => -1
set_option maxHeartbeats 800000 in
set_option maxRecDepth 100000 in
theorem refFind_any {U : Nat} {w : World} {b : Nat} {lv : Value} {s : Ca Int} (h : RefIs U w b lv s) (n : Int) : Calls Try.prog 48 #[ptr b, .int .i64 n] w fun r w' => r = .returned (.int .i64 (findI n s.L)) ∧ w' = w := by
  obtain ⟨a, c, rfl⟩ := own_slice h.row
  have c3 : w.cell? ⟨b, 3, none⟩ = some (.slice a s.L.length c) := by rw [row_cell h.cells]; rfl
  have HR : Hid (NewT 0 w (.slice a s.L.length c) s.L) := h.row
  have hlen : s.L.length ≤ 65536 := Nat.le_trans h.room h.places.2
  have hlz : (s.L.length : Int) ≤ 65536 := by omega
  clear h
  generalize s.L = L at *
  go_enter Try.func48, Try.ntmps48
  go_wp2_with fail
  go_loop [5] (fun i => ∃ k : Nat, k ≤ L.length ∧ i = .int .i64 k ∧ ∀ t ∈ L.take k, t.n ≠ n) (fun i => L.length - (intOf i).toNat)
  case atStart => exact ⟨0, Nat.zero_le _, rfl, fun t ht => by simp at ht⟩
  case round =>
    obtain ⟨k, hk, rfl, hno⟩ := hrel
    have HNO : Hid (∀ t ∈ L.take k, t.n ≠ n) := hno
    clear hno
    by_cases hlt : k < L.length
    · have hltz : (k : Int) < (L.length : Int) := by omega
      obtain ⟨y, hy⟩ : ∃ y, L[k]? = some y := ⟨_, List.getElem?_eq_getElem hlt⟩
      obtain ⟨g, rfl, _, hg, y0, _⟩ := th_cell HR.out hy
      have HY : Hid (L[k]? = some y) := hy
      clear hy
      by_cases e : y.n = n
      · have he : (y.n == n) = true := by simpa using e
        have HF : Hid (findI n L = (k : Int)) := by
          show _ = _
          unfold findI
          have : L.findIdx? (fun t => t.n == n) = some k := by
            rw [List.findIdx?_eq_some_iff_getElem]
            obtain ⟨h1, h2⟩ := List.getElem?_eq_some_iff.1 HY.out
            refine ⟨h1, by rw [h2]; exact he, fun j hj => ?_⟩
            have := HNO.out L[j] (by rw [List.mem_take_iff_getElem]; exact ⟨j, by omega, rfl⟩)
            simpa using this
          rw [this]
        go_wp2_with fail
        go_ret
        exact ⟨by rw [HF.out]; rfl, rfl⟩
      · have he : (y.n == n) = false := by simpa using e
        go_wp2_with fail
        exact ⟨⟨k + 1, by omega, by go_num, fun t ht => by
          rw [List.take_add_one, HY.out] at ht
          rcases List.mem_append.1 ht with ht | ht
          · exact HNO.out t ht
          · simp at ht
            subst ht
            exact e⟩, by simp [intOf]; omega⟩
    · have hltz : ¬ (k : Int) < (L.length : Int) := by omega
      have HF : Hid (findI n L = -1) := by
        show _ = _
        unfold findI
        have : L.findIdx? (fun t => t.n == n) = none := by
          rw [List.findIdx?_eq_none_iff]
          intro t ht
          have := HNO.out t (by rw [List.take_of_length_le (by omega)]; exact ht)
          simpa using this
        rw [this]
      go_wp2_with fail
      go_ret
      exact ⟨by rw [HF.out]; rfl, rfl⟩
theorem erase_step {L : List (Th Int)} {k i : Nat} {y : Th Int} (h : L[k]? = some y) : (L.take (k + 1)).eraseIdx i = (L.take k).eraseIdx i ++ if k = i then [] else [y] := by
  obtain ⟨hl, he⟩ := List.getElem?_eq_some_iff.1 h
  rw [List.take_add_one, h]
  have hlen : (L.take k).length = k := by simp; omega
  by_cases e : k = i
  · subst e
    rw [if_pos rfl, List.eraseIdx_append_of_length_le (by omega), hlen]
    simp
    rw [List.eraseIdx_of_length_le (by omega)]
  · rw [if_neg e]
    by_cases hi : i < k
    · rw [List.eraseIdx_append_of_lt_length (by omega)]
      rfl
    · rw [List.eraseIdx_append_of_length_le (by omega), hlen, List.eraseIdx_of_length_le (l := L.take k) (by omega)]
      congr 1
      rw [List.eraseIdx_of_length_le (by simp; omega)]
      rfl
set_option maxHeartbeats 800000 in
set_option maxRecDepth 100000 in
theorem refOut_any {U : Nat} {w : World} {b i : Nat} {lv : Value} {s : Ca Int} (h : RefIs U w b lv s) (_hi : i < s.L.length) : Calls Try.prog 49 #[ptr b, .int .i64 (i : Int)] w fun r w' => r = .returned (.tuple #[]) ∧ ∃ lv', NewT w.heap.size w' lv' (s.L.eraseIdx i) ∧ w'.heap[b]? = some (.cells #[.int .i64 (s.places : Int), .int .i64 (s.hits : Int), .int .i64 (s.misses : Int), lv'] 64 (0, 0)) ∧ Kept (fun k => k = b) w w' := by
  obtain ⟨a, c, rfl⟩ := own_slice h.row
  have HC : Hid (w.heap[b]? = some (.cells #[.int .i64 (s.places : Int), .int .i64 (s.hits : Int), .int .i64 (s.misses : Int), .slice a s.L.length c] 64 (0, 0))) := h.cells
  have hbl : b < w.heap.size := (Array.getElem?_eq_some_iff.1 h.cells).1
  have HR : Hid (NewT 0 w (.slice a s.L.length c) s.L) := h.row
  have hlen : s.L.length ≤ 65536 := Nat.le_trans h.room h.places.2
  have hlz : (s.L.length : Int) ≤ 65536 := by omega
  clear h
  generalize s.L = L at *
  generalize s.places = P at *
  generalize s.hits = Hh at *
  generalize s.misses = Mm at *
  go_enter Try.func49, Try.ntmps49
  go_wp2_with fail
  go_loopw [4, 5] (fun u kv wr => ∃ k : Nat, k ≤ L.length ∧ kv = .int .i64 k ∧ NewT w.heap.size wr u ((L.take k).eraseIdx i) ∧ Below w.heap.size w wr) (fun _ kv _ => L.length - (intOf kv).toNat)
  case atStart => exact ⟨0, Nat.zero_le _, rfl, World.ownsRow_nil _ _ _ _, Below.refl _ _⟩
  case round =>
    obtain ⟨k, hk, rfl, hu, hb⟩ := hrel
    have c3 : wr.cell? ⟨b, 3, none⟩ = some (.slice a L.length c) := by rw [row_cell ((hb.block b hbl).trans HC.out)]; rfl
    have f3 : wr.frozen? ⟨b, 3, none⟩ = false := row_frozen ((hb.block b hbl).trans HC.out) _
    by_cases hlt : k < L.length
    · have hltz : (k : Int) < (L.length : Int) := by omega
      obtain ⟨y, hy⟩ : ∃ y, L[k]? = some y := ⟨_, List.getElem?_eq_getElem hlt⟩
      obtain ⟨g, rfl, _, hg, y0', y1', y2', _⟩ := th_cell HR.out hy
      have y0 := (hb.cell (p := ⟨g, k * 3, none⟩) hg).trans y0'
      have y1 := (hb.cell (p := ⟨g, k * 3 + 1, none⟩) hg).trans y1'
      have y2 := (hb.cell (p := ⟨g, k * 3 + 2, none⟩) hg).trans y2'
      have HST : Hid ((L.take (k + 1)).eraseIdx i = (L.take k).eraseIdx i ++ if k = i then [] else [y]) := erase_step hy
      have HLE : Hid (((L.take k).eraseIdx i).length ≤ 65536) := Nat.le_trans (List.length_eraseIdx_le ..) (by simp; omega)
      have HU : Hid (NewT w.heap.size wr u4 ((L.take k).eraseIdx i)) := hu
      have HB : Hid (Below w.heap.size w wr) := hb
      clear y0' y1' y2' hy hu hb
      generalize hfl : (L.take k).eraseIdx i = fl at *
      clear hfl
      by_cases e : k = i
      · have he : ((k : Int) != (i : Int)) = false := by simp [e]
        have HKI : Hid (k = i) := e
        clear e
        go_wp2_with fail
        exact ⟨⟨k + 1, by omega, by go_num, by rw [HST.out, if_pos HKI.out, List.append_nil]; exact HU.out, HB.out⟩, by simp [intOf]; omega⟩
      · have he : ((k : Int) != (i : Int)) = true := by simp; omega
        have HV : Hid (NewT w.heap.size (wr.alloc (.cells #[.int .i64 y.n, .int .i64 y.x, .int .i64 (y.pins : Int)] 89)) u4 fl) := own_here HU.out (below_new _ _)
        have HB2 : Hid (Below w.heap.size w (wr.alloc (.cells #[.int .i64 y.n, .int .i64 y.x, .int .i64 (y.pins : Int)] 89))) := HB.out.alloc HB.out.size _
        go_wp2_with (at_builtin
                     refine wpList_append_th rfl _ _ rfl w.heap.size u4 fl y rfl HV.out wr.heap.size rfl (heap_alloc_last wr _) (by have := HLE.out; omega) (Below.size HB2.out) ?_
                     intro v6 w6 hv6 _ hk6
                     have HV6 : Hid (NewT w.heap.size w6 v6 (fl ++ [y])) := hv6
                     have HB6 : Hid (Below w.heap.size w w6) := Below.trans HB2.out hk6.low
                     clear hv6 hk6)
        exact ⟨⟨k + 1, by omega, by go_num, by rw [HST.out, if_neg e]; exact HV6.out, HB6.out⟩, by simp [intOf]; omega⟩
    · have hltz : ¬ (k : Int) < (L.length : Int) := by omega
      rw [List.take_of_length_le (by omega)] at hu
      generalize hE : L.eraseIdx i = E at *
      have HU : Hid (NewT w.heap.size wr u4 E) := hu
      have HB : Hid (Below w.heap.size w wr) := hb
      obtain ⟨a4, c4, rfl⟩ := own_slice hu
      clear hu hb
      go_wp2_with fail
      go_end0
      refine ⟨rfl, .slice a4 E.length c4, ?_, (heap_set_same _ ((HB.out.block b hbl).trans HC.out)).trans (by simp), (Kept.of_below HB.out).trans (setCell_kept _) (fun _ _ e => e)⟩
      refine own_kept HU.out (setCell_kept _) (fun j hj e => ?_)
      have := (own_type HU.out j hj).2.1
      omega
set_option maxHeartbeats 800000 in
set_option maxRecDepth 100000 in
theorem refNumbers_any {U : Nat} {own : Nat → Prop} {w : World} {b : Nat} {s : Ca Int} (h : RefAt U own w b s) : Calls Try.prog 29 #[ptr b] w fun r w' => ∃ v, r = .returned v ∧ NewI w.heap.size w' v s.nums ∧ Below w.heap.size w w' := by
  obtain ⟨lv, h, _⟩ := h
  obtain ⟨a, c, rfl⟩ := own_slice h.row
  have HC : Hid (w.heap[b]? = some (.cells #[.int .i64 (s.places : Int), .int .i64 (s.hits : Int), .int .i64 (s.misses : Int), .slice a s.L.length c] 64 (0, 0))) := h.cells
  have hbl : b < w.heap.size := (Array.getElem?_eq_some_iff.1 h.cells).1
  have HR : Hid (NewT 0 w (.slice a s.L.length c) s.L) := h.row
  have hlen : s.L.length ≤ 65536 := Nat.le_trans h.room h.places.2
  have hlz : (s.L.length : Int) ≤ 65536 := by omega
  unfold Ca.nums
  clear h
  generalize s.L = L at *
  generalize s.places = P at *
  generalize s.hits = Hh at *
  generalize s.misses = Mm at *
  go_enter Try.func29, Try.ntmps29
  go_wp2_with fail
  go_loopw [3, 4] (fun u kv wr => ∃ k : Nat, k ≤ L.length ∧ kv = .int .i64 k ∧ NewI w.heap.size wr u ((L.take k).map Th.n) ∧ Below w.heap.size w wr) (fun _ kv _ => L.length - (intOf kv).toNat)
  case atStart => exact ⟨0, Nat.zero_le _, rfl, World.ownsRow_nil _ _ _ _, Below.refl _ _⟩
  case round =>
    obtain ⟨k, hk, rfl, hu, hb⟩ := hrel
    have c3 : wr.cell? ⟨b, 3, none⟩ = some (.slice a L.length c) := by rw [row_cell ((hb.block b hbl).trans HC.out)]; rfl
    by_cases hlt : k < L.length
    · have hltz : (k : Int) < (L.length : Int) := by omega
      obtain ⟨y, hy⟩ : ∃ y, L[k]? = some y := ⟨_, List.getElem?_eq_getElem hlt⟩
      obtain ⟨g, rfl, _, hg, y0', _⟩ := th_cell HR.out hy
      have y0 := (hb.cell (p := ⟨g, k * 3, none⟩) hg).trans y0'
      have HST : Hid ((L.take (k + 1)).map Th.n = (L.take k).map Th.n ++ [y.n]) := by
        show _ = _
        rw [List.take_add_one, hy, List.map_append]
        rfl
      have HLE : Hid (((L.take k).map Th.n).length ≤ 65536) := (show ((L.take k).map Th.n).length ≤ 65536 by simp; omega)
      have HV : Hid (NewI w.heap.size (wr.alloc (.cells #[.int .i64 y.n] 3)) u3 ((L.take k).map Th.n)) := own_here hu (below_new _ _)
      have HB2 : Hid (Below w.heap.size w (wr.alloc (.cells #[.int .i64 y.n] 3))) := hb.alloc hb.size _
      clear y0' hy hu hb
      generalize hfl : (L.take k).map Th.n = fl at *
      clear hfl
      go_wp2_with (at_builtin
                   refine wpList_append_int rfl _ _ rfl w.heap.size u3 fl y.n rfl HV.out wr.heap.size rfl (heap_alloc_last wr _) (by have := HLE.out; omega) (Below.size HB2.out) ?_
                   intro v6 w6 hv6 _ hk6
                   have HV6 : Hid (NewI w.heap.size w6 v6 (fl ++ [y.n])) := hv6
                   have HB6 : Hid (Below w.heap.size w w6) := Below.trans HB2.out hk6.low
                   clear hv6 hk6)
      exact ⟨⟨k + 1, by omega, by go_num, by rw [HST.out]; exact HV6.out, HB6.out⟩, by simp [intOf]; omega⟩
    · have hltz : ¬ (k : Int) < (L.length : Int) := by omega
      rw [List.take_of_length_le (by omega)] at hu
      have HU : Hid (NewI w.heap.size wr u3 (L.map Th.n)) := hu
      have HB : Hid (Below w.heap.size w wr) := hb
      clear hu hb
      go_wp2_with fail
      go_ret
      exact ⟨_, rfl, HU.out, HB.out⟩
end Go.Proofs.Yteajgodpdfcioaa
