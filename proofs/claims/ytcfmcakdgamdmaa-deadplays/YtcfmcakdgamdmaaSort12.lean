/- slices.Sort of at most twelve numbers. -/
import Derived.Test.YtcfmcakdgamdmaaURow
namespace Go.Proofs.Ytcfmcakdgamdmaa
open Go.RowKit Go.Sort Go.Shelf

theorem len_any (w : World) (n : Nat) (h : n ≤ 9223372036854775807) : Calls Try.prog 44 #[.int .u64 (n : Int)] w fun e w' => e = .returned (.int .i64 (Lib.bitLen n : Nat)) ∧ w' = w := by
  have := Any.bits_Len Try.lenA (n : Int) w (by omega) (by omega)
  rw [Int.toNat_natCast] at this
  exact this
/-- A row that is owned is a row to sort. -/
theorem urow_own {g c : Nat} {w : World} {S : List Int} {cur : Array Value} (hg : w.heap[g]? = some (.cells cur 32 (0, 0))) (hc : S.length ≤ c) (hs : cur.size = c * 1) (ht : cur.toList.take (S.length * 1) = S.map encU) : URow w w g c S.toArray := by
  refine ⟨⟨cur, hg, by omega, fun j hj => ?_⟩, by simpa using hc, Kept.refl _ _⟩
  simp at hj
  have hget : cur[j]? = (S.map encU)[j]? := by rw [← ht, List.getElem?_take, if_pos (by omega), Array.getElem?_toList]
  rw [hget, List.getElem?_map, List.getElem?_eq_getElem hj, getElem!_pos S.toArray j (by simpa using hj)]
  simp [encU]
theorem own_urow {base g c n : Nat} {w w' : World} {d : Array Int} (hb : base ≤ g) (hcm : c ≤ maxLen) (hn : d.size = n) (h : URow w w' g c d) : NewU base w' (.slice (some ⟨g, 0, none⟩) n c) d.toList := by
  obtain ⟨cur, h1, h2, h3⟩ := h.is
  have hl := h.len
  subst hn
  refine ⟨by simp, .inr ⟨g, c, cur, by simp, hb, h1, by simpa using hl, hcm, by omega, ?_⟩⟩
  apply List.ext_getElem?
  intro j
  rw [List.getElem?_take]
  by_cases hj : j < d.size
  · rw [if_pos (by simpa using hj), Array.getElem?_toList, h3 j hj, List.getElem?_map, Array.getElem?_toList, Array.getElem?_eq_getElem hj, getElem!_pos d j hj]
    rfl
  · rw [if_neg (by simpa using hj), List.getElem?_map, Array.getElem?_toList, Array.getElem?_eq_none (by omega)]
    rfl
theorem sort_post {base g c n : Nat} {w w' : World} {S : List Int} (hb : base ≤ g) (hbw : base ≤ w.heap.size) (hcm : c ≤ maxLen) (hn : S.length = n) (h : URow w w' g c (sort ltInt S.toArray)) : SortPost base w (.slice (some ⟨g, 0, none⟩) n c) S (.returned (.tuple #[])) w' := by
  have hs := sortInt S
  have hsz : (sort ltInt S.toArray).size = n := by
    have := congrArg List.length hs
    rw [List.length_mergeSort] at this
    simpa using this.trans hn
  refine ⟨_, rfl, ?_, ?_, own_urow hb hcm hsz h, ⟨h.kept.os, h.kept.tape, h.kept.output, h.kept.size, fun k hk => h.kept.block k (by omega) (by omega)⟩⟩
  · rw [hs]; exact List.mergeSort_perm _ _
  · rw [hs]
    have := List.pairwise_mergeSort (le := fun x y : Int => decide (x ≤ y)) (fun a b c h1 h2 => by simp at *; omega) (fun a b => by simp; omega) S
    exact this.imp (by intro a b h; simpa using h)
set_option maxHeartbeats 1600000 in
set_option maxRecDepth 100000 in
theorem pdq_small {w : World} {g c cc n : Nat} {d : Array Int} {l : Int} (h : URow w w g c d) (hn : d.size = n) (hs : n ≤ 12) :
    Calls Try.prog 43 #[.slice (some ⟨g, 0, none⟩) n cc, .int .i64 0, .int .i64 (n : Int), .int .i64 l] w fun e w' => SwapPost w g c (insertionSort ltInt d 0 n) e w' := by
  subst hn
  have HI := insertion_any (cc := cc) h (Nat.zero_le d.size) (Nat.le_refl _) (by omega)
  have hz : (d.size : Int) ≤ 12 := by omega
  clear h
  go_enter Try.func43, Try.ntmps43
  go_wp2_with fail
  go_loopw [1, 2] (fun va vb wx => va = .int .i64 0 ∧ vb = .int .i64 (d.size : Int) ∧ wx = w) (fun _ _ _ => 1)
  case atStart => exact ⟨rfl, rfl, rfl⟩
  case round =>
    obtain ⟨rfl, rfl, hw⟩ := hrel
    obtain rfl := hw.symm
    go_wp2_with (go_at_call 51; refine HI.mono ?_; rintro e w2 ⟨rfl, h2⟩; have H2 : Hid _ := h2; clear h2)
    refine bodyPost_ret (results_none rfl _ _ _) rfl ?_
    exact ⟨rfl, H2.out⟩
set_option maxHeartbeats 1600000 in
set_option maxRecDepth 100000 in
theorem insertion_none (w : World) : Calls Try.prog 51 #[.slice none 0 0, .int .i64 0, .int .i64 0] w fun e w' => e = .returned (.tuple #[]) ∧ w' = w := by
  go_enter Try.func51, Try.ntmps51
  go_wp2_with fail
  go_loopw [6, 7] (fun vi _ wx => vi = .int .i64 1 ∧ wx = w) (fun _ _ _ => 1)
  case atStart => exact ⟨rfl, rfl⟩
  case round =>
    obtain ⟨rfl, hw⟩ := hrel
    obtain rfl := hw.symm
    go_wp2_with fail
    go_end0
    exact ⟨rfl, rfl⟩
set_option maxHeartbeats 1600000 in
set_option maxRecDepth 100000 in
theorem pdq_none (w : World) (l : Int) : Calls Try.prog 43 #[.slice none 0 0, .int .i64 0, .int .i64 0, .int .i64 l] w fun e w' => e = .returned (.tuple #[]) ∧ w' = w := by
  have HI := insertion_none w
  go_enter Try.func43, Try.ntmps43
  go_wp2_with fail
  go_loopw [1, 2] (fun va vb wx => va = .int .i64 0 ∧ vb = .int .i64 0 ∧ wx = w) (fun _ _ _ => 1)
  case atStart => exact ⟨rfl, rfl, rfl⟩
  case round =>
    obtain ⟨rfl, rfl, hw⟩ := hrel
    obtain rfl := hw.symm
    go_wp2_with (go_at_call 51; refine HI.mono ?_; rintro e w2 ⟨rfl, h2⟩; obtain rfl := h2.symm)
    refine bodyPost_ret (results_none rfl _ _ _) rfl ?_
    exact ⟨rfl, rfl⟩
set_option maxHeartbeats 1600000 in
set_option maxRecDepth 100000 in
theorem sort_none (w : World) : Calls Try.prog 33 #[.slice none 0 0] w fun e w' => e = .returned (.tuple #[]) ∧ w' = w := by
  have HP := pdq_none w ((Lib.bitLen 0 : Nat) : Int)
  have HL := len_any w 0 (by omega)
  go_enter Try.func33, Try.ntmps33
  go_wp2_with (first
    | (go_at_call 44; refine HL.mono ?_; rintro e w' ⟨rfl, hw'⟩; obtain rfl := hw'.symm)
    | (go_at_call 43; refine HP.mono ?_; rintro e w2 ⟨rfl, h2⟩; obtain rfl := h2.symm))
  go_end0
  exact ⟨rfl, rfl⟩
theorem sort_small (d : Array Int) (h : d.size ≤ 12) : sort ltInt d = insertionSort ltInt d 0 d.size := by
  unfold sort
  rw [pdq, if_pos (by omega)]
set_option maxHeartbeats 1600000 in
set_option maxRecDepth 100000 in
theorem sort12 (n : Nat) (hn : n ≤ 12) : SortOk n := fun base w v S hv hS hb => by
  rcases hv.2 with ⟨rfl, h0⟩ | ⟨g, c, cur, rfl, hbg, hg, hc, hm, hsz, ht⟩
  · have h0' : S = [] := List.eq_nil_of_length_eq_zero h0
    subst h0'
    refine (sort_none w).mono ?_
    rintro e w' ⟨rfl, hw'⟩
    obtain rfl := hw'.symm
    exact ⟨[], rfl, List.Perm.refl _, List.Pairwise.nil, World.ownsRow_nil _ _ _ _, Below.refl _ _⟩
  · subst hS
    have hu := urow_own hg hc hsz ht
    have HP := pdq_small (cc := c) (l := ((Lib.bitLen S.length : Nat) : Int)) hu (n := S.length) (by simp) hn
    rw [show (insertionSort ltInt S.toArray 0 S.length) = sort ltInt S.toArray by rw [sort_small _ (by simpa using hn)]; simp] at HP
    have HL := len_any w S.length (by omega)
    clear hu ht hsz hc
    go_enter Try.func33, Try.ntmps33
    go_wp2_with (first
      | (go_at_call 44; refine HL.mono ?_; rintro e w' ⟨rfl, hw'⟩; obtain rfl := hw'.symm)
      | (go_at_call 43; refine HP.mono ?_; rintro e w2 ⟨rfl, h2⟩; have H2 : Hid _ := h2; clear h2))
    go_end0
    exact sort_post hbg hb hm rfl H2.out
end Go.Proofs.Ytcfmcakdgamdmaa
