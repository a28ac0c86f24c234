/- Rows of numbers of new memory; places: newPlaces, from, shut. -/
import Derived.Test.YtkjjgbaoicjbaabCopied
namespace Go.Proofs.Ytkjjgbaoicjbaab
open Go.RowKit

def encI (p : Int) : Value := .int .i64 p
theorem infoIz : (Try.prog.info? 3).map (fun i => (i.zero, i.size, i.bytes)) = some (some (.int .i64 0), 1, 8) := by kernel_rfl
theorem infoI' : ∃ i, Try.prog.info? 3 = some i ∧ i.zero = some (.int .i64 0) ∧ i.size = 1 ∧ i.bytes = 8 := by
  have h := infoIz
  cases hi : Try.prog.info? 3 with
  | none => rw [hi] at h; simp at h
  | some i => rw [hi] at h; simp at h; exact ⟨i, rfl, h⟩
theorem madeInts (n : Nat) : (madeCells (Value.cells (.int .i64 0)) (n * 1)).toList = List.replicate n (.int .i64 0) := by
  simp only [madeCells, Value.cells, Nat.mul_one]
  apply List.ext_getElem
  · simp
  · intro i h1 h2
    simp [Nat.mod_one]
/-- A block that holds just these numbers. -/
structure RowI (w : World) (g : Nat) (xs : List Int) : Prop where
  row : w.heap[g]? = some (.cells (xs.map encI).toArray 3 (0, 0))
theorem RowI.lt {w : World} {g : Nat} {xs : List Int} (h : RowI w g xs) : g < w.heap.size := (Array.getElem?_eq_some_iff.1 h.row).1
theorem RowI.cell {w : World} {g i : Nat} {xs : List Int} {x : Int} (h : RowI w g xs) (hi : xs[i]? = some x) : w.cell? ⟨g, i, none⟩ = some (.int .i64 x) := by
  rw [row_cell h.row]; simp [hi, encI]
theorem RowI.open {w : World} {g : Nat} {xs : List Int} (h : RowI w g xs) (i : Nat) : w.frozen? ⟨g, i, none⟩ = false := row_frozen h.row i
theorem RowI.set {w : World} {g : Nat} {xs : List Int} (h : RowI w g xs) (i : Nat) (x : Int) : RowI (w.setCell ⟨g, i, none⟩ (.int .i64 x)) g (xs.set i x) := by
  refine ⟨?_⟩
  rw [heap_set_same _ h.row, List.setIfInBounds_toArray]
  simp [List.map_set, encI]
theorem RowI.block {w w' : World} {g : Nat} {xs : List Int} (h : RowI w g xs) (hb : w'.heap[g]? = w.heap[g]?) : RowI w' g xs := ⟨by rw [hb]; exact h.row⟩
theorem RowI.here {w w' : World} {g : Nat} {xs : List Int} (h : RowI w g xs) (hb : Below w.heap.size w w') : RowI w' g xs := h.block (hb.block g h.lt)
/-- All but one block stays. -/
structure But (g : Nat) (w w' : World) : Prop where
  low : Below g w w'
  rest : ∀ k, k ≠ g → w'.heap[k]? = w.heap[k]?
theorem But.refl (g : Nat) (w : World) : But g w w := ⟨Below.refl _ _, fun _ _ => rfl⟩
theorem But.trans {g : Nat} {a b c : World} (h : But g a b) (k : But g b c) : But g a c := ⟨h.low.trans k.low, fun i hi => by rw [k.rest i hi, h.rest i hi]⟩
theorem But.set (g i : Nat) (w : World) (v : Value) : But g w (w.setCell ⟨g, i, none⟩ v) := ⟨Below.setCell (Below.refl g w) (show g ≤ (⟨g, i, none⟩ : Addr).block from Nat.le_refl _) v, fun _ hk => heap_set_other v hk⟩
theorem But.below {g B : Nat} {w w' : World} (h : But g w w') (hB : B ≤ g) : Below B w w' := h.low.mono hB

def natI (P : List Nat) : List Int := P.map (fun x : Nat => (x : Int))
theorem natI_get {P : List Nat} {i q : Nat} (h : P[i]? = some q) : (natI P)[i]? = some (q : Int) := by simp [natI, h]
theorem natI_set (P : List Nat) (i q : Nat) : natI (P.set i q) = (natI P).set i (q : Int) := by simp [natI, List.map_set]

/-- What from gives. -/
structure FromPost (w : World) (g n : Nat) (sh : Nat → Prop) (a : Nat) (r : Ending) (w' : World) : Prop where
  is : ∃ (b : Nat) (P : List Nat), r = .returned (.int .i64 (b : Int)) ∧ a ≤ b ∧ b ≤ n ∧ ¬ sh b ∧ (∀ c, a ≤ c → c < b → sh c) ∧ Pl n sh P ∧ RowI w' g (natI P) ∧ But g w w'

set_option maxHeartbeats 1600000 in
set_option maxRecDepth 100000 in
theorem from_any {w : World} {g n a : Nat} {sh : Nat → Prop} {P : List Nat} (hr : RowI w g (natI P)) (hp : Pl n sh P) (ha : a ≤ n) (_hn : n ≤ 140737488355328) :
    Calls Try.prog 43 #[.slice (some ⟨g, 0, none⟩) (n + 1) (n + 1), .int .i64 (a : Int)] w fun r w' => FromPost w g n sh a r w' := by
  have HR : Hid (RowI w g (natI P)) := hr
  have HP : Hid (Pl n sh P) := hp
  clear hr hp
  go_enter Try.func43, Try.ntmps43
  go_wp2_with fail
  go_loopw [1] (fun i wx => ∃ (c : Nat) (P' : List Nat), i = .int .i64 (c : Int) ∧ a ≤ c ∧ c ≤ n ∧ (∀ b, a ≤ b → b < c → sh b) ∧ Pl n sh P' ∧ RowI wx g (natI P') ∧ But g w wx) (fun i _ => n - (intOf i).toNat)
  case atStart => exact ⟨a, P, rfl, Nat.le_refl _, ha, fun b h1 h2 => by omega, HP.out, HR.out, But.refl _ _⟩
  case round =>
    obtain ⟨c, P', rfl, hac, hcn, hsh, hp, hr, hbut⟩ := hrel
    have HS : Hid (∀ b, a ≤ b → b < c → sh b) := hsh
    have HP' : Hid (Pl n sh P') := hp
    have HR' : Hid (RowI wr g (natI P')) := hr
    have HB : Hid (But g w wr) := hbut
    obtain ⟨q, hq, hcq, hqn, hqe⟩ := hp.get c hcn
    obtain ⟨r, hrq, _, hrn, _⟩ := hp.get q hqn
    have HQ : Hid (P'[c]? = some q) := hq
    have HQE : Hid (q = c ↔ ¬ sh c) := hqe
    have HRQ : Hid (P'[q]? = some r) := hrq
    have c1 := hr.cell (natI_get hq)
    have c2 := hr.cell (natI_get hrq)
    have o1 := hr.open c
    have hz1 : (c : Int) < (n : Int) + 1 := by omega
    have hz2 : (q : Int) < (n : Int) + 1 := by omega
    clear hsh hp hr hbut hq hqe hrq HR HP
    by_cases hne : q = c
    · subst hne
      clear c2
      have hz5 : ((q : Int) != (q : Int)) = false := by simp
      go_wp2
      go_ret
      exact ⟨q, P', rfl, hac, hcn, HQE.out.1 (by first | trivial | rfl), HS.out, HP'.out, HR'.out, HB.out⟩
    · have hz3 : ((q : Int) == (c : Int)) = false := int_ne (by omega)
      have hz4 : ((q : Int) != (c : Int)) = true := by simp [bne, hz3]
      obtain ⟨s1, s2, s3, s4⟩ := HP'.out.short hcn HQ.out hne HRQ.out
      have HN1 : Hid (Pl n sh (P'.set c r)) := s1
      have HN4 : Hid (∀ b, c ≤ b → b < r → sh b) := s4
      clear s1 s4 hne
      go_wp2
      refine ⟨⟨r, P'.set c r, rfl, by omega, s3, fun b h1 h2 => ?_, HN1.out, ?_, HB.out.trans (But.set _ _ _ _)⟩, by simp [intOf]; omega⟩
      · rcases Nat.lt_or_ge b c with h | h
        · exact HS.out b h1 h
        · exact HN4.out b h h2
      · rw [natI_set]; exact HR'.out.set c r

set_option maxHeartbeats 800000 in
set_option maxRecDepth 100000 in
theorem shut_any {w : World} {g n a : Nat} {P : List Nat} (hr : RowI w g (natI P)) (ha : a < n) (hl : P.length = n + 1) (hn : n ≤ 140737488355328) :
    Calls Try.prog 44 #[.slice (some ⟨g, 0, none⟩) (n + 1) (n + 1), .int .i64 (a : Int)] w fun r w' => r = .returned (.tuple #[]) ∧ RowI w' g (natI (P.set a (a + 1))) ∧ But g w w' := by
  have HR : Hid (RowI w g (natI P)) := hr
  obtain ⟨q, hq⟩ : ∃ q, P[a]? = some q := ⟨_, List.getElem?_eq_getElem (by omega)⟩
  have c1 := hr.cell (natI_get hq)
  have o1 := hr.open a
  have hz1 : (a : Int) < (n : Int) + 1 := by omega
  clear hr hq
  go_enter Try.func44, Try.ntmps44
  go_wp2
  go_end0
  refine ⟨rfl, ?_, But.set _ _ _ _⟩
  rw [natI_set]
  have := HR.out.set a ((a + 1 : Nat) : Int)
  simpa using this

set_option maxHeartbeats 1600000 in
set_option maxRecDepth 100000 in
theorem newPlaces_any (w : World) (n : Nat) (hn : n * 8 + 8 ≤ 140737488355328) :
    Calls Try.prog 41 #[.int .i64 (n : Int)] w fun r w' => r = .returned (.slice (some ⟨w.heap.size, 0, none⟩) (n + 1) (n + 1)) ∧ RowI w' w.heap.size (natI (List.range (n + 1))) ∧ Below w.heap.size w w' := by
  obtain ⟨i0, hi, hz0, hz1, hz2⟩ := infoI'
  go_enter Try.func41, Try.ntmps41
  go_wp2_with (at_make; refine wpList_make_full _ rfl _ _ 92 rfl w.heap.size 3 i0 (.int .i64 0) 1 Try.underlying92 hi hz0 hz1 _ _ _ _ (n + 1) rfl rfl (by omega) (by omega) (by rw [hz2]; omega) (by unfold maxLen; omega) (Nat.le_refl _) ?_
               intro w0 hown0 hg0
               rw [madeInts] at hown0
               have HO : Hid (w0.ownsRow w.heap.size 3 1 (.slice (some ⟨w.heap.size, 0, none⟩) (n + 1) (n + 1)) (n + 1) (List.replicate (n + 1) (.int .i64 0))) := hown0
               have HB0 : Hid (Below w.heap.size w w0) := (Below.refl _ _).grown hg0 (Nat.le_refl _) (fun k h => by cases h)
               clear hown0 hg0)
  have HR0 : Hid (RowI w0 w.heap.size ((natI (List.range (n + 1))).take 0 ++ List.replicate (n + 1) 0)) := by
    refine ⟨?_⟩
    obtain ⟨hl, hr⟩ := HO.out
    rcases hr with ⟨e, _⟩ | ⟨g', cap, cur, e, _, hg, _, _, hs, ht⟩
    · cases e
    · cases e
      rw [hg, show cur = (List.replicate (n + 1) (Value.int .i64 0)).toArray by rw [← ht, List.take_of_length_le (by simp [hs])]]
      simp [encI]
  clear HO
  go_loopw [10] (fun i wx => ∃ c : Nat, i = .int .i64 (c : Int) ∧ c ≤ n + 1 ∧ RowI wx w.heap.size ((natI (List.range (n + 1))).take c ++ List.replicate (n + 1 - c) 0) ∧ Below w.heap.size w wx) (fun i _ => n + 1 - (intOf i).toNat)
  case atStart => exact ⟨0, rfl, by omega, HR0.out, HB0.out⟩
  case round =>
    obtain ⟨c, rfl, hc, hr, hbw⟩ := hrel
    have HR : Hid (RowI wr w.heap.size ((natI (List.range (n + 1))).take c ++ List.replicate (n + 1 - c) 0)) := hr
    have HB : Hid (Below w.heap.size w wr) := hbw
    have o1 := hr.open c
    have hlt' : (natI (List.range (n + 1))).length = n + 1 := by simp [natI]
    by_cases hlt : c < n + 1
    · have hz : (c : Int) < (n : Int) + 1 := by omega
      have c1 := hr.cell (i := c) (x := 0) (by rw [List.getElem?_append_right (by rw [List.length_take]; omega), List.length_take, hlt', Nat.min_eq_left (by omega), Nat.sub_self, List.getElem?_replicate]; rw [if_pos (by omega)])
      have HN : Hid (RowI (wr.setCell ⟨w.heap.size, c, none⟩ (.int .i64 (c : Int))) w.heap.size ((natI (List.range (n + 1))).take (c + 1) ++ List.replicate (n + 1 - (c + 1)) 0)) := by
        have := hr.set c (c : Int)
        rw [List.set_append_right _ _ (by rw [List.length_take]; omega), List.length_take, hlt', Nat.min_eq_left (by omega), Nat.sub_self, show n + 1 - c = (n + 1 - (c + 1)) + 1 by omega, List.replicate_succ, List.set_cons_zero] at this
        rw [Hid, List.take_add_one, natI_get (i := c) (q := c) (by rw [List.getElem?_range hlt])]
        simpa using this
      clear hr hbw hlt'
      go_wp2
      exact ⟨⟨c + 1, by go_num, by omega, HN.out, HB.out.setCell (Nat.le_refl _) _⟩, by simp [intOf]; omega⟩
    · have hz : ¬ (c : Int) < (n : Int) + 1 := by omega
      have HF : Hid (RowI wr w.heap.size (natI (List.range (n + 1)))) := by
        have := HR.out
        rw [List.take_of_length_le (by omega), show n + 1 - c = 0 by omega] at this
        simpa [Hid] using this
      clear hr hbw hlt' o1
      go_wp2
      go_ret
      refine ⟨rfl, ?_, HB.out⟩
      have := HF.out
      rw [List.range_succ] at this
      exact this
end Go.Proofs.Ytkjjgbaoicjbaab
