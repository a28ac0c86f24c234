/- New, Count, Hits, Numbers. -/
import Derived.Test.YteajgodpdfcioaaGets
import Derived.Laws.MakeOwn
namespace Go.Proofs.Yteajgodpdfcioaa
open Go.RowKit Go.Maps

theorem new_bad (w : World) (n : Int) (h : n < 1 ∨ 65536 < n) : Calls Try.prog 12 #[.int .i64 n] w fun r w' => r = .returned (.tuple #[.pointer none, .int .i64 1]) ∧ w' = w := by
  rcases h with h | h
  · go_enter Try.func12, Try.ntmps12
    go_wp2
    go_ret2
    exact ⟨rfl, rfl⟩
  · have h' : ¬ n < 1 := by omega
    go_enter Try.func12, Try.ntmps12
    go_wp2
    go_ret2
    exact ⟨rfl, rfl⟩
theorem new_is (w : World) (n : Nat) (h1 : 1 ≤ n) (h2 : n ≤ 65536) : CacheAt 0 (fun k => w.heap.size ≤ k ∧ k < w.heap.size + 3) (((w.alloc (.cells (plc (endP w.heap.size) w.heap.size w.heap.size) 68)).alloc (.map #[] 0)).alloc (.cells (hdr ⟨n, w.heap.size + 1, w.heap.size, w.heap.size, 0, 0, 0⟩) 71)) (w.heap.size + 2) ⟨n, 0, 0, []⟩ := by
  obtain ⟨wa, hwa⟩ : ∃ wa, wa = w.alloc (.cells (plc (endP w.heap.size) w.heap.size w.heap.size) 68) := ⟨_, rfl⟩
  obtain ⟨wb, hwb⟩ : ∃ wb, wb = wa.alloc (.map #[] 0) := ⟨_, rfl⟩
  rw [← hwa, ← hwb]
  have sa : wa.heap.size = w.heap.size + 1 := by rw [hwa]; simp
  have sb : wb.heap.size = w.heap.size + 2 := by rw [hwb]; simp [sa]
  have ga : wa.heap[w.heap.size]? = some (.cells (plc (endP w.heap.size) w.heap.size w.heap.size) 68 (0, 0)) := by rw [hwa]; exact heap_alloc_last w _
  have gb : wb.heap[w.heap.size]? = some (.cells (plc (endP w.heap.size) w.heap.size w.heap.size) 68 (0, 0)) := by
    rw [hwb, (below_new wa _).block _ (by omega)]
    exact ga
  have mb : wb.ownsMap Try.prog 3 hP (w.heap.size + 1) 0 (.map []) := by
    rw [hwb, ← sa]
    exact World.ownsMap_made wa _ _ _
  refine ⟨⟨n, w.heap.size + 1, w.heap.size, w.heap.size, 0, 0, 0⟩, .map [], [], fun _ => w.heap.size, fun _ => w.heap.size, ?_, rfl, fun k => ?_⟩
  · refine ⟨?_, ⟨fun p hp => ?_, Ring.new _⟩, ⟨mb.alloc _, fun p hp => (by cases hp), fun n _ => rfl, rfl⟩, by simp, Nat.zero_le _, ⟨h1, h2⟩, ⟨[], [], rfl, fun q hq => (by cases hq), rfl⟩, by simp, fun p hp => (by cases hp), fun p hp => (by cases hp), fun p hp => (by cases hp), ⟨Nat.le_refl _, Nat.le_refl _, Nat.le_refl _, fun p hp => (by cases hp)⟩⟩
    · show (wb.alloc _).heap[w.heap.size + 2]? = _
      rw [← sb]
      exact heap_alloc_last wb _
    · simp at hp
      subst hp
      show (wb.alloc _).heap[w.heap.size]? = _
      rw [(below_new wb _).block _ (by omega)]
      exact gb
  · unfold OwnOf
    simp
    omega
theorem new_ok (w : World) (n : Nat) (h1 : 1 ≤ n) (h2 : n ≤ 65536) : Calls Try.prog 12 #[.int .i64 (n : Int)] w fun r w' => r = .returned (.tuple #[ptr (w.heap.size + 2), .int .i64 0]) ∧ CacheAt 0 (fun k => w.heap.size ≤ k ∧ k < w.heap.size + 3) w' (w.heap.size + 2) ⟨n, 0, 0, []⟩ ∧ Below w.heap.size w w' ∧ w'.heap.size = w.heap.size + 3 := by
  have hmm := @run_makeMap Try.prog
  have hb1 : ¬ ((n : Int) < 1) := by omega
  have hb2 : ¬ ((65536 : Int) < (n : Int)) := by omega
  have HK : Hid _ := new_is w n h1 h2
  clear h1 h2
  go_enter Try.func12, Try.ntmps12
  go_wp2
  go_ret2
  exact ⟨rfl, HK.out, (((Below.refl _ _).alloc (Nat.le_refl _) _).alloc (by simp) _).alloc (by simp; omega) _, by simp⟩
theorem count_any {U : Nat} {own : Nat → Prop} {w : World} {c : Nat} {s : Ca Value} (h : CacheAt U own w c s) : Calls Try.prog 17 #[ptr c] w fun r w' => r = .returned (.int .i64 (s.L.length : Int)) ∧ w' = w := by
  obtain ⟨h, D, G, nx, pv, hc, rfl, ho⟩ := h
  have := count_walk hc.map (c := c) (by rw [row_cell hc.head]; rfl)
  simpa [Hd.ca] using this
theorem hits_any {U : Nat} {own : Nat → Prop} {w : World} {c : Nat} {s : Ca Value} (h : CacheAt U own w c s) : Calls Try.prog 27 #[ptr c] w fun r w' => r = .returned (.tuple #[.int .i64 (s.hits : Int), .int .i64 (s.misses : Int)]) ∧ ∃ q, w' = w.drewN q := by
  obtain ⟨h, D, G, nx, pv, hc, rfl, ho⟩ := h
  have c5 : w.cell? ⟨c, 5, none⟩ = some (.int .i64 (h.hits : Int)) := by rw [row_cell hc.head]; rfl
  have c6 : w.cell? ⟨c, 6, none⟩ = some (.int .i64 (h.misses : Int)) := by rw [row_cell hc.head]; rfl
  clear hc
  go_enter Try.func27, Try.ntmps27
  go_wp2
  go_quiet (fail)
  go_wp2_with fail
  go_ret2
  exact ⟨rfl, _, rfl⟩
/-- The block of a pointer. -/
def blkOf : Value → Nat
  | .pointer (some a) => a.block
  | _ => 0
theorem CacheAt.below {U : Nat} {own : Nat → Prop} {w w' : World} {c : Nat} {s : Ca Value} (k : CacheAt U own w c s) (hb : Below w.heap.size w w') : CacheAt U own w' c s := k.same fun i hi => hb.block i (k.lt hi)
set_option maxHeartbeats 800000 in
set_option maxRecDepth 100000 in
theorem numbers_any {U : Nat} {own : Nat → Prop} {w : World} {c : Nat} {s : Ca Value} (h : CacheAt U own w c s) : Calls Try.prog 16 #[ptr c] w fun r w' => ∃ v, r = .returned v ∧ NewI w.heap.size w' v s.nums ∧ Below w.heap.size w w' := by
  obtain ⟨h, D, G, nx, pv, hc, rfl, ho⟩ := h
  obtain ⟨i0, hi, hz0, hz1, hz2⟩ := infoI'
  have hcnt := count_walk hc.map (c := c) (by rw [row_cell hc.head]; rfl)
  have HCN : Hid (Calls Try.prog 17 #[ptr c] w fun e w' => e = .returned (.int .i64 (G.length : Int)) ∧ w' = w) := hcnt
  have hlen : G.length ≤ 65536 := Nat.le_trans hc.room hc.places.2
  obtain ⟨w1, hmk, ho1, hg1⟩ := run_make_own w w.heap.size 42 3 i0 (.int .i64 0) 1 Try.underlying42 hi hz0 hz1 .i64 .i64 G.length (by rw [hz2]; omega) (by unfold maxLen; omega) (Nat.le_refl _)
  have hb1 : Below w.heap.size w w1 := (Below.refl _ _).grown hg1 (Nat.le_refl _) (fun _ e => by cases e)
  have HO1 : Hid (NewI w.heap.size w1 (.slice (some ⟨w.heap.size, 0, none⟩) 0 G.length) []) := ho1
  have HB1 : Hid (Below w.heap.size w w1) := hb1
  have HCC : Hid (∀ w', Below w.heap.size w w' → CacheIs U w' c h D G nx pv) := fun w' hb => hc.same fun i hi => hb.block i (hc.lt hi)
  have hring := hc.ring.ring
  have HR : Hid (Ring nx pv h.e (G.map Pl.b)) := hring
  have HN : Hid (h.e :: G.map Pl.b).Nodup := hring.nodup
  have c2 : w1.cell? ⟨c, 2, none⟩ = some (ptr h.e) := by rw [row_cell (HCC.out w1 hb1).head]; rfl
  have e5 : w1.cell? ⟨h.e, 5, none⟩ = some (ptr (fstB h.e (G.map Pl.b))) := by
    have ge : w1.heap[h.e]? = some (.cells (plc (endP h.e) (pv h.e) (nx h.e)) 68 (0, 0)) := (HCC.out w1 hb1).ring.mem (endP h.e) (by simp)
    rw [row_cell ge, hring.ends.1]
    rfl
  have hlenz : (G.length : Int) ≤ 65536 := by omega
  clear hcnt hc ho ho1 hg1 hb1 hring
  generalize hfst : fstB h.e (G.map Pl.b) = f0 at *
  have HF0 : Hid (fstB h.e (G.map Pl.b) = f0) := hfst
  clear hfst
  go_enter Try.func16, Try.ntmps16
  go_wp2_with (go_at_call 17; refine Calls.mono HCN.out ?_; rintro e w' ⟨rfl, hw'⟩; obtain rfl := hw'.symm)
  go_loopw [3, 4] (fun lv p wr => ∃ F R, G = F ++ R ∧ p = ptr (fstB h.e (R.map Pl.b)) ∧ NewI w.heap.size wr lv (F.map Pl.n) ∧ Below w.heap.size w wr) (fun _ p _ => G.length - (G.map Pl.b).idxOf (blkOf p))
  case atStart => exact ⟨[], G, rfl, by rw [HF0.out], HO1.out, HB1.out⟩
  case round =>
    obtain ⟨F, R, hG, rfl, hv, hbl⟩ := hrel
    have hcr := HCC.out wr hbl
    have hn1 : (h.e :: (F.map Pl.b ++ R.map Pl.b)).Nodup := by rw [← List.map_append, ← hG]; exact HN.out
    have hid : (G.map Pl.b).idxOf (fstB h.e (R.map Pl.b)) = F.length := by
      rw [hG, List.map_append, idx_from h.e _ _ hn1]
      simp
    have k2 : wr.cell? ⟨c, 2, none⟩ = some (ptr h.e) := by rw [row_cell hcr.head]; rfl
    clear c2 e5
    cases R with
    | nil =>
      have q1 := ptr_same' wr h.e
      have HV : Hid (NewI w.heap.size wr _ (F.map Pl.n)) := hv
      have HBL : Hid (Below w.heap.size w wr) := hbl
      have HG : Hid (G = F) := (show G = F by simpa using hG)
      have q2 : fstB h.e (([] : List Pl).map Pl.b) = h.e := rfl
      rw [q2] at *
      clear hv hbl hcr hn1 hid hG q2
      go_wp2_with fail
      go_ret
      refine ⟨_, rfl, ?_, HBL.out⟩
      have : (h.ca G).nums = F.map Pl.n := by rw [HG.out]; simp [Ca.nums, Hd.ca, Pl.th]
      rw [this]
      exact HV.out
    | cons q R =>
      have hqG : q ∈ endP h.e :: G := by rw [hG]; simp
      have gq := hcr.ring.mem q hqG
      have ge := hcr.ring.mem (endP h.e) (by simp)
      have hqe : q.b ≠ h.e := fun e => by simp [e] at hn1
      have hnx : nx q.b = fstB h.e (R.map Pl.b) := by
        have : Ring nx pv h.e (F.map Pl.b ++ q.b :: R.map Pl.b) := by have := HR.out; rw [hG] at this; simpa using this
        exact this.at.1
      have q1 : (binOp .neq 65 (.pointer (some ⟨q.b, 0, none⟩)) (.pointer (some ⟨h.e, 0, none⟩))).run Try.prog wr = .ok (.bool true) wr := ptr_other' (w := wr) gq (show wr.heap[h.e]? = _ from ge) hqe
      rw [hnx] at gq
      have b0 : wr.cell? ⟨q.b, 0, none⟩ = some (.int .i64 q.n) := by rw [row_cell gq]; rfl
      have b5 : wr.cell? ⟨q.b, 5, none⟩ = some (ptr (fstB h.e (R.map Pl.b))) := by rw [row_cell gq]; rfl
      have hqw : q.b < w.heap.size := by
        have := hcr.core.lt (.inr (show q.b ∈ h.e :: G.map Pl.b by rw [hG]; simp))
        have h2 := (HCC.out w (Below.refl _ _)).core.lt (.inr (show q.b ∈ h.e :: G.map Pl.b by rw [hG]; simp))
        exact h2
      have HV : Hid (NewI w.heap.size (wr.alloc (.cells #[.int .i64 q.n] 3)) u3 (F.map Pl.n)) := own_here hv (below_new _ _)
      have HBL : Hid (Below w.heap.size w (wr.alloc (.cells #[.int .i64 q.n] 3))) := hbl.alloc hbl.size _
      have HB5 : Hid ((wr.alloc (.cells #[.int .i64 q.n] 3)).cell? ⟨q.b, 5, none⟩ = some (ptr (fstB h.e (R.map Pl.b)))) := ((below_new wr _).cell (p := ⟨q.b, 5, none⟩) (by have := hbl.size; show q.b < _; omega)).trans b5
      have HLT : Hid (F.length + 1 ≤ 65536) := by
        rw [hG] at hlen
        show _ ≤ _
        simp at hlen
        omega
      have HG : Hid (G = F ++ q :: R) := hG
      have HID : Hid ((G.map Pl.b).idxOf q.b = F.length) := hid
      have HID2 : Hid ((G.map Pl.b).idxOf (fstB h.e (R.map Pl.b)) = F.length + 1) := by
        show _ = _
        have hn2 : (h.e :: ((F ++ [q]).map Pl.b ++ R.map Pl.b)).Nodup := by simpa using hn1
        rw [show G.map Pl.b = (F ++ [q]).map Pl.b ++ R.map Pl.b by rw [hG]; simp, idx_from h.e _ _ hn2]
        simp
      have q2 : fstB h.e ((q :: R).map Pl.b) = q.b := rfl
      rw [q2] at *
      clear hv hbl hcr hn1 hid hG q2 hqG gq ge hnx b5 hlen hlenz
      generalize hD : fstB h.e (R.map Pl.b) = d at *
      have HD : Hid (fstB h.e (R.map Pl.b) = d) := hD
      clear hD
      go_wp2_with (at_builtin
                   refine wpList_append_int rfl _ _ rfl w.heap.size u3 (F.map Pl.n) q.n rfl HV.out wr.heap.size rfl (heap_alloc_last wr _) (by have := HLT.out; simp; omega) (Below.size HBL.out) ?_
                   intro v5 w5 hv5 _ hk5
                   have HV5 : Hid (NewI w.heap.size w5 v5 (F.map Pl.n ++ [q.n])) := hv5
                   have HB6 : Hid (Below w.heap.size w w5) := Below.trans HBL.out hk5.low
                   have b5 : w5.cell? ⟨q.b, 5, none⟩ = some (ptr d) := (hk5.low.cell (p := ⟨q.b, 5, none⟩) hqw).trans HB5.out
                   clear hv5 hk5)
      exact ⟨⟨F ++ [q], R, by rw [HG.out]; simp, by rw [HD.out], by rw [List.map_append]; exact HV5.out, HB6.out⟩, by
        have h1 := HID.out
        have h2 := HID2.out
        have h3 : G.length = F.length + (R.length + 1) := by rw [HG.out]; simp
        show G.length - (G.map Pl.b).idxOf d < G.length - (G.map Pl.b).idxOf q.b
        omega⟩
end Go.Proofs.Yteajgodpdfcioaa
