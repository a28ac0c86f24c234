/- A number many times (slices.Repeat). -/
import Derived.Test.YtkjjgbaoicjbaabSearch
namespace Go.Proofs.Ytkjjgbaoicjbaab
open Go.RowKit

set_option maxHeartbeats 800000 in
set_option maxRecDepth 100000 in
theorem mul_one' (w : World) (n : Nat) (hn : n < 4611686018427387904) :
    Calls Try.prog 51 #[.int .u64 1, .int .u64 (n : Int)] w fun r w' => r = .returned (.tuple #[.int .u64 0, .int .u64 (n : Int)]) ∧ w' = w := by
  have HM := mul64_one w n hn
  go_enter Try.func51, Try.ntmps51
  go_wp2_with fail
  refine HM.mono ?_
  rintro r w' ⟨rfl, hw⟩
  obtain rfl := hw.symm
  go_wp2
  go_ret2
  exact ⟨rfl, rfl⟩
/-- A row whose first p numbers are -1. -/
def negs (n p : Nat) : List Int := List.replicate p (-1) ++ List.replicate (n - p) 0
theorem negs_length (n p : Nat) (h : p ≤ n) : (negs n p).length = n := by simp [negs]; omega
theorem negs_get (n p j : Nat) (h : j < p) : (negs n p)[j]? = some (-1) := by
  unfold negs
  rw [List.getElem?_append_left (by simpa using h), List.getElem?_replicate, if_pos h]
theorem negs_splice (n p m : Nat) (h : p + m ≤ n) : splice ((negs n p).map encI) p (List.replicate m (.int .i64 (-1))) = (negs n (p + m)).map encI := by
  unfold splice negs
  rw [List.map_append, List.map_append]
  simp only [List.map_replicate, encI, List.length_replicate]
  rw [List.take_left' (by simp), List.drop_append, List.drop_of_length_le (by simp), List.nil_append, List.length_replicate, List.drop_replicate, ← List.append_assoc, List.replicate_append_replicate, show n - p - (p + m - p) = n - (p + m) by omega]
set_option maxHeartbeats 400000 in
set_option maxRecDepth 100000 in
theorem repeat_any {w : World} {b n : Nat} (hc : w.cell? ⟨b, 0, none⟩ = some (.int .i64 (-1))) (hn : n * 8 ≤ 140737488355328) :
    Calls Try.prog 40 #[.slice (some ⟨b, 0, none⟩) 1 1, .int .i64 (n : Int)] w fun r w' => ∃ g, r = .returned (.slice (some ⟨g, 0, none⟩) n n) ∧ w.heap.size ≤ g ∧ RowI w' g (List.replicate n (-1)) ∧ Below w.heap.size w w' := by
  obtain ⟨i0, hi, hz0, hz1, hz2⟩ := infoI'
  have hsz3 : (Try.prog.info? 3).map (·.size) = some 1 := by rw [hi]; simp [hz1]
  have hbl : b < w.heap.size := by
    rcases Nat.lt_or_ge b w.heap.size with h | h
    · exact h
    · simp [World.cell?, Array.getElem?_eq_none h] at hc
  have HM := mul_one' w n (by omega)
  have HCS : Hid (∀ (w' : World) (m : Nat), m ≤ 1 → Below w.heap.size w w' → ∀ (j : Nat) (v : Value), (List.replicate m (Value.int .i64 (-1)))[j]? = some v → w'.cell? ((⟨b, 0, none⟩ : Addr).add j) = some v) := fun w' m hm hb j v hj => by
    rw [List.getElem?_replicate] at hj
    split at hj
    · cases hj
      obtain rfl : j = 0 := by omega
      rw [add_at, hb.cell (by exact hbl)]
      exact hc
    · cases hj
  have HONE : Hid (∀ m, ∀ v ∈ List.replicate m (Value.int .i64 (-1)), v.oneCell' = true) := fun m v hv => by rw [List.eq_of_mem_replicate hv]; rfl
  obtain ⟨m0, hm0⟩ : ∃ m0, m0 = Nat.min 1 n := ⟨_, rfl⟩
  have HMM : Hid (m0 = Nat.min 1 n) := hm0
  have hm01 : m0 ≤ 1 := by rw [hm0]; exact Nat.min_le_left _ _
  have hm0n : m0 ≤ n := by rw [hm0]; exact Nat.min_le_right _ _
  have HM0 : Hid (0 < n → 0 < m0) := fun h => by rw [hm0]; simp [Nat.min_def]; split <;> omega
  clear hm0
  have hnz : ¬ (n : Int) < 0 := by omega
  have hnzd : decide ((n : Int) < 0) = false := decide_eq_false hnz
  have hnm : ¬ (9223372036854775807 : Int) < (n : Int) := by omega
  have hnmd : decide ((9223372036854775807 : Int) < (n : Int)) = false := decide_eq_false hnm
  go_enter Try.func40, Try.ntmps40
  go_wp2_with fail
  refine HM.mono ?_
  rintro r w' ⟨rfl, hw⟩
  obtain rfl := hw.symm
  go_wp2_with (first
    | (at_make; refine wpList_make_full _ rfl _ _ 62 rfl w.heap.size 3 i0 (.int .i64 0) 1 Try.underlying62 hi hz0 hz1 _ _ _ _ n rfl rfl (by omega) (by omega) (by rw [hz2]; omega) (by unfold maxLen; omega) (Nat.le_refl _) ?_
       intro w0 hown0 hg0
       rw [madeInts] at hown0
       have HB0 : Hid (Below w.heap.size w w0) := (Below.refl _ _).grown hg0 (Nat.le_refl _) (fun k h => by cases h)
       have HR0 : Hid (w0.heap[w.heap.size]? = some (.cells ((negs n 0).map encI).toArray 3 (0, 0))) := by
         obtain ⟨hl, hr⟩ := hown0
         rcases hr with ⟨e, _⟩ | ⟨g', cap, cur, e, _, hg, _, _, hs, ht⟩
         · cases e
         · cases e
           rw [Hid, hg, show cur = (List.replicate n (Value.int .i64 0)).toArray by rw [← ht, List.take_of_length_le (by simp [hs])]]
           simp [negs, encI]
       clear hown0 hg0)
    | (refine wpList_copy_splice rfl _ _ 62 62 rfl 3 Try.underlying62 hsz3 _ _ _ _ _ _ rfl rfl w.heap.size 0 ((negs n 0).map encI) 3 HR0.out (List.replicate m0 (.int .i64 (-1))) (by rw [List.length_replicate, HMM.out]) (fun _ => ⟨rfl, _, rfl, HCS.out w0 m0 hm01 HB0.out⟩) (by simp [negs]; omega) (HONE.out m0) w.heap.size w HB0.out (Nat.le_refl _) ?_
       intro w2 hr2 hb2
       have HB2 : Hid (Below w.heap.size w w2) := hb2
       have HR2 : Hid _ := hr2
       clear hb2 hr2))
  have HRM : Hid (RowI w2 w.heap.size (negs n m0)) := ⟨by have := HR2.out; have e := negs_splice n 0 m0 (by omega); rw [Nat.zero_add] at e; rw [e] at this; exact this⟩
  clear HR2 HR0 HB0 HM
  go_loopw [8] (fun u wx => ∃ p : Nat, u = .int .i64 (p : Int) ∧ p ≤ n ∧ (0 < n → 0 < p) ∧ RowI wx w.heap.size (negs n p) ∧ Below w.heap.size w wx) (fun u _ => n - (intOf u).toNat)
  case atStart => exact ⟨m0, by first | rfl | simp, hm0n, HM0.out, HRM.out, HB2.out⟩
  case round =>
    obtain ⟨p, rfl, hpn, hp0, hrow, hbw⟩ := hrel
    have HRW : Hid (RowI wr w.heap.size (negs n p)) := hrow
    have HBW : Hid (Below w.heap.size w wr) := hbw
    clear hrow hbw
    by_cases hlt : p < n
    · have hz : (p : Int) < (n : Int) := by omega
      have hpp : 0 < p := hp0 (by omega)
      have hpc : ¬ n = p := by omega
      have hple : (p : Int) ≤ (n : Int) := by omega
      obtain ⟨m, hm⟩ : ∃ m, m = Nat.min p (n - p) := ⟨_, rfl⟩
      have hm1 : m ≤ p := by rw [hm]; exact Nat.min_le_left _ _
      have hm2 : m ≤ n - p := by rw [hm]; exact Nat.min_le_right _ _
      have hm3 : 0 < m := by rw [hm]; simp [Nat.min_def]; split <;> omega
      have HMN : Hid ((List.replicate m (Value.int .i64 (-1))).length = Nat.min p (n - p)) := by rw [Hid, List.length_replicate, hm]
      have HSR : Hid (∀ (j : Nat) (v : Value), (List.replicate m (Value.int .i64 (-1)))[j]? = some v → (wr.drew).cell? ((⟨w.heap.size, 0, none⟩ : Addr).add j) = some v) := fun j v hj => by
        rw [List.getElem?_replicate] at hj
        split at hj
        · cases hj
          rw [add_at, Nat.zero_add]
          exact HRW.out.cell (negs_get n p j (by omega))
        · cases hj
      have hwpm : IntKind.i64.wrap ((p : Int) + (m : Int)) = (p : Int) + (m : Int) := by
        have := wrapk_nat (p + m) (by omega)
        rwa [Int.natCast_add] at this
      clear hp0 hm
      go_wp2_with fail
      go_region_law (refine step_copy_splice (by rfl) _ _ 62 62 (by rfl) 3 Try.underlying62 hsz3 (some ⟨w.heap.size, p, none⟩) (some ⟨w.heap.size, 0, none⟩) (n - p) (n - p) p n (by simp [Act.eval, Act.put]) (by simp [Act.eval, Act.put]) w.heap.size p ((negs n p).map encI) 3 (by exact HRW.out.row) (List.replicate m (.int .i64 (-1))) HMN.out (fun _ => ⟨by first | rfl | exact if_neg (by omega), _, rfl, HSR.out⟩) (by rw [List.length_map, negs_length _ _ hpn, List.length_replicate]; omega) (HONE.out m) w.heap.size w (by exact HBW.out.drew) (Nat.le_refl _) ?_
                     intro w3 hr3 hb3
                     have HR3 : Hid _ := hr3
                     have HB3 : Hid (Below w.heap.size w w3) := hb3
                     clear hr3 hb3)
      all_goals
        simp [Act.put]
        go_wp2
        refine ⟨⟨p + m, by first | rfl | go_num | simp, by omega, fun _ => by omega, ⟨?_⟩, HB3.out⟩, by simp [intOf]; omega⟩
        have := HR3.out; rw [negs_splice n p m (by omega)] at this; exact this
    · have hz : ¬ (p : Int) < (n : Int) := by omega
      have HF : Hid (RowI wr w.heap.size (List.replicate n (-1))) := by
        have := HRW.out
        obtain rfl : p = n := by omega
        simpa [negs, Hid] using this
      go_wp2
      go_ret
      exact ⟨_, rfl, Nat.le_refl _, HF.out, HBW.out⟩
end Go.Proofs.Ytkjjgbaoicjbaab
