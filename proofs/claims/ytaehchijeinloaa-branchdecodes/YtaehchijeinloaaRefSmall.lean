/- banyanref06's alike, Bytes, Child; banyanref03's Sized, Room. -/
import Derived.Test.YtaehchijeinloaaRefSort
import Derived.Test.YtaehchijeinloaaSame
import Derived.Test.YtaehchijeinloaaWeight
import Derived.Test.YtaehchijeinloaaRefFit
import Derived.WalkLawsBesides
namespace Go.Proofs.Ytaehchijeinloaa
open Go.RowKit

theorem alike_exit {N L : List Int} (hp : N.Perm L) (h : N.Nodup) : L.Nodup := (hp.nodup_iff).1 h
theorem nodup_next {N : List Int} (hr : N.Pairwise (· ≤ ·)) {i : Nat} {x y : Int} (hi : 1 ≤ i) (hx : N[i]? = some x) (hy : N[i - 1]? = some y) (hne : x ≠ y) (h : (N.take i).Nodup) : (N.take (i + 1)).Nodup := by
  rw [List.take_add_one, hx]
  simp only [Option.toList_some]
  rw [List.nodup_append]
  refine ⟨h, by simp, fun a ha b hb e => ?_⟩
  simp at hb
  subst hb
  obtain ⟨j, hj⟩ := List.getElem?_of_mem ha
  rw [List.getElem?_take] at hj
  split at hj
  · rename_i hji
    obtain ⟨h1, e1⟩ := List.getElem?_eq_some_iff.1 hj
    obtain ⟨h2, e2⟩ := List.getElem?_eq_some_iff.1 hx
    obtain ⟨h3, e3⟩ := List.getElem?_eq_some_iff.1 hy
    have hw := List.pairwise_iff_getElem.1 hr
    have ha1 : a ≤ y := by
      rcases Nat.lt_or_ge j (i - 1) with h4 | h4
      · have := hw j (i - 1) h1 h3 h4; rw [e1, e3] at this; exact this
      · have h5 : j = i - 1 := by omega
        subst h5
        rw [e1] at e3
        omega
    have ha2 : y ≤ b := by have := hw (i - 1) i h3 h2 (by omega); rw [e3, e2] at this; exact this
    exact hne (by omega)
  · cases hj
theorem not_nodup {N : List Int} {i : Nat} {x : Int} (hi : 1 ≤ i) (hx : N[i]? = some x) (hy : N[i - 1]? = some x) : ¬ N.Nodup := fun h => by
  obtain ⟨h2, e2⟩ := List.getElem?_eq_some_iff.1 hx
  obtain ⟨h3, e3⟩ := List.getElem?_eq_some_iff.1 hy
  have := List.pairwise_iff_getElem.1 h (i - 1) i h3 h2 (by omega)
  exact this (by rw [e3, e2])

set_option maxHeartbeats 1600000 in
set_option maxRecDepth 100000 in
theorem refAlike_any {w : World} {v : Value} {ps : List Int} (h : IntsAt w.heap.size w v ps) :
    Calls Try.prog 55 #[v] w fun e w' => e = .returned (.bool (!decide ps.Nodup)) ∧ Below w.heap.size w w' := by
  have HL : Hid (IntsAt w.heap.size w v ps) := h
  obtain ⟨a, c, rfl⟩ := h.form
  clear h
  go_enter Try.func55, Try.ntmps55
  go_wp2_with fail
  refine (refSorted_any _ w _ ps rfl HL.out).mono ?_
  rintro e w1 ⟨vn, N, rfl, hN, hp, hr, hb1⟩
  have HN : Hid (IntsAt w1.heap.size w1 vn N) := hN
  have HP : Hid (N.Perm ps) := hp
  have HR : Hid (N.Pairwise (· ≤ ·)) := hr
  have HB1 : Hid (Below w.heap.size w w1) := hb1
  obtain ⟨a1, c1, rfl⟩ := hN.form
  have hs := hN.short
  clear hN hp hr hb1
  go_wp2_with fail
  go_loopw [4] (fun i wx => ∃ k : Nat, 1 ≤ k ∧ i = .int .i64 k ∧ (N.take k).Nodup ∧ ∃ q, wx = w1.drewN q) (fun i _ => N.length - (intOf i).toNat)
  case atStart => exact ⟨1, by omega, rfl, by match N with | [] => simp | x :: M => simp, 0, rfl⟩
  case round =>
    obtain ⟨k, hk, rfl, hnd, q, rfl⟩ := hrel
    have HND : Hid (N.take k).Nodup := hnd
    clear hnd
    by_cases hlt : k < N.length
    · have hz : (k : Int) < (N.length : Int) := by omega
      obtain ⟨j, hj⟩ : ∃ j, k = j + 1 := ⟨k - 1, by omega⟩
      have hj1 : (k : Int) - 1 = (j : Int) := by omega
      have hj2 : (j : Int) < (N.length : Int) := by omega
      have hwj : IntKind.i64.wrap (j : Int) = (j : Int) := wrapk_of _ (by omega) (by omega)
      obtain ⟨x, hx⟩ : ∃ x, N[k]? = some x := ⟨_, List.getElem?_eq_getElem hlt⟩
      obtain ⟨y, hy⟩ : ∃ y, N[j]? = some y := ⟨N[j]'(by omega), List.getElem?_eq_getElem _⟩
      have HX : Hid (N[k]? = some x) := hx
      have HY : Hid (N[k - 1]? = some y) := by rw [hj, Nat.add_sub_cancel]; exact hy
      obtain ⟨g1, off1, _, e1, hc1⟩ := HN.out.cell k x hx
      cases e1
      obtain ⟨g2, off2, _, e2, hc2⟩ := HN.out.cell j y hy
      cases e2
      clear hx hy hj
      by_cases hxy : x = y
      · subst hxy
        have hxz : (x == x) = true := by simp
        have HF : Hid ((!decide ps.Nodup) = true) := by
          have h1 := not_nodup hk HX.out HY.out
          have h2 : ¬ ps.Nodup := fun h => h1 (HP.out.nodup_iff.2 h)
          rw [Hid]; simp [h2]
        go_wp2_with fail
        go_quiet (fail)
        go_wp2
        go_ret
        exact ⟨ret_bool (by rw [HF.out]), below_draws (below_draws HB1.out _) _⟩
      · have hxz : (x == y) = false := by simpa using hxy
        have HNX : Hid (N.take (k + 1)).Nodup := nodup_next HR.out hk HX.out HY.out hxy HND.out
        clear hxy
        go_wp2_with fail
        go_quiet (fail)
        go_wp2
        exact ⟨⟨k + 1, by omega, by go_num, HNX.out, _, rfl⟩, by simp [intOf]; omega⟩
    · have hz : ¬ (k : Int) < (N.length : Int) := by omega
      have HF : Hid ((!decide ps.Nodup) = false) := by
        have h1 := HND.out
        rw [List.take_of_length_le (by omega)] at h1
        have h2 : ps.Nodup := HP.out.nodup_iff.1 h1
        rw [Hid]; simp [h2]
      go_wp2
      go_ret
      exact ⟨ret_bool (by rw [HF.out]), below_draws HB1.out _⟩

theorem refSized_any (w : World) (z : Int) : Calls Try.prog 41 #[.int .i64 z] w fun e w' => e = .returned (.bool (decide (Sized z))) ∧ w' = w := by
  by_cases h : Sized z
  · rcases id h with rfl | rfl | rfl | rfl
    all_goals
      go_enter Try.func41, Try.ntmps41
      go_wp2
      go_ret
      exact ⟨ret_bool (decide_eq_true h).symm, rfl⟩
  · have h1 : (z == 512) = false := by simp; exact fun e => h (.inl e)
    have h2 : (z == 1024) = false := by simp; exact fun e => h (.inr (.inl e))
    have h3 : (z == 2048) = false := by simp; exact fun e => h (.inr (.inr (.inl e)))
    have h4 : (z == 4096) = false := by simp; exact fun e => h (.inr (.inr (.inr e)))
    have HF : Hid (decide (Sized z) = false) := decide_eq_false h
    clear h
    go_enter Try.func41, Try.ntmps41
    go_wp2
    go_ret
    exact ⟨ret_bool HF.out.symm, rfl⟩
theorem refRoom_any (w : World) (z : Int) : Calls Try.prog 54 #[.int .i64 z] w fun r w' => r = .returned (.int .i64 (if Sized z then z - 32 else 0)) ∧ w' = w := by
  by_cases h : Sized z
  · rw [if_pos h]
    have HS := refSized_any w z
    rw [decide_eq_true h] at HS
    have hz := sized_le h
    go_enter Try.func54, Try.ntmps54
    go_wp2_with fail
    refine HS.mono ?_
    rintro e w1 ⟨rfl, rfl⟩
    go_wp2
    go_ret
    exact ⟨rfl, rfl⟩
  · rw [if_neg h]
    have HS := refSized_any w z
    rw [decide_eq_false h] at HS
    clear h
    go_enter Try.func54, Try.ntmps54
    go_wp2_with fail
    refine HS.mono ?_
    rintro e w1 ⟨rfl, rfl⟩
    go_wp2
    go_ret
    exact ⟨rfl, rfl⟩

/-- As much as a program is given. -/
def Light (ps : List Int) (L : List Kc) : Prop := ps.length + weightL L ≤ 2147483647
theorem bytesL_le (L : List Kc) : bytesL (keysOf L) ≤ 2 * weightL L := by
  induction L with
  | nil => simp [bytesL, keysOf]
  | cons a L ih =>
    simp only [bytesL, keysOf, weightL, List.map_cons, List.sum_cons] at ih ⊢
    omega
theorem weight_mem {L : List Kc} {e : Kc} (h : e ∈ L) : e.k.length ≤ weightL L := by
  induction L with
  | nil => cases h
  | cons a L ih =>
    simp only [weightL, List.map_cons, List.sum_cons] at ih ⊢
    rcases List.mem_cons.1 h with rfl | h
    · omega
    · have := ih h; omega
theorem light_key {ps : List Int} {L : List Kc} {e : Kc} (h : Light ps L) (he : e ∈ L) : e.k.length ≤ 2147483647 := by
  have h1 := weight_mem he
  have h2 : ps.length + weightL L ≤ 2147483647 := h
  omega
theorem bytesL_take_le (ks : List Key) (k : Nat) : bytesL (ks.take k) ≤ bytesL ks := by
  have h := bytesL_append (ks.take k) (ks.drop k)
  rw [List.take_append_drop] at h
  omega
theorem light_bytes {ps : List Int} {L : List Kc} (h : Light ps L) : bytesK (kd ps L) ≤ 8589934600 := by
  have h1 := bytesL_le L
  have h2 : ps.length + weightL L ≤ 2147483647 := h
  show 2 + 4 * ps.length + bytesL (keysOf L) ≤ _
  omega
theorem light_wrap {ps : List Int} {L : List Kc} (h : Light ps L) : wrap64 (bytesK (kd ps L)) = (bytesK (kd ps L) : Int) := by
  have := light_bytes h
  exact wrap_of _ (by omega) (by omega)
set_option maxHeartbeats 800000 in
set_option maxRecDepth 100000 in
theorem refBytes_any {w : World} {v : Value} {ps : List Int} {L : List Kc} (h : KidsAt w.heap.size w v ps L) (hl : Light ps L) :
    Calls Try.prog 34 #[v] w fun r w' => r = .returned (.int .i64 (bytesK (kd ps L) : Nat)) ∧ Below w.heap.size w w' := by
  have HLB : Hid (bytesK (kd ps L) ≤ 8589934600) := light_bytes hl
  obtain ⟨vp, vk, rfl, h1, h2⟩ := h.is
  obtain ⟨a1, c1, rfl⟩ := h1.form
  obtain ⟨a2, c2, rfl⟩ := h2.form
  have hs1 := h1.short
  have hs2 := h2.short
  obtain ⟨W, hW⟩ : ∃ W, W = w.alloc (.cells #[.slice a1 ps.length c1, .slice a2 L.length c2] 26) := ⟨_, rfl⟩
  have HBW : Hid (Below w.heap.size w W) := by rw [hW]; exact below_new _ _
  have HK : Hid (KeysAt W.heap.size W (.slice a2 L.length c2) L) := h2.here HBW.out
  clear h h1 h2 hl
  go_enter Try.func34, Try.ntmps34
  go_wp2
  rw [← hW]
  have c0 : W.cell? ⟨w.heap.size, 1, none⟩ = some (.slice a2 L.length c2) := by rw [hW, row_cell (heap_alloc_last w _)]; rfl
  clear hW
  go_loopw [3, 4] (fun n i wx => ∃ (k N : Nat), k ≤ L.length ∧ i = .int .i64 k ∧ n = .int .i64 N ∧ N = 2 + 4 * ps.length + bytesL ((keysOf L).take k) ∧ wx = W) (fun _ i _ => L.length - (intOf i).toNat)
  case atStart => exact ⟨0, 2 + 4 * ps.length, by omega, rfl, by go_num, by simp [bytesL], rfl⟩
  case round =>
    obtain ⟨k, N, hk, rfl, rfl, hN, rfl⟩ := hrel
    have hNb : N ≤ 8589934600 := by
      have h1 := bytesL_take_le (keysOf L) k
      have h2 := HLB.out
      have h3 : bytesK (kd ps L) = 2 + 4 * ps.length + bytesL (keysOf L) := rfl
      omega
    have HN : Hid (N = 2 + 4 * ps.length + bytesL ((keysOf L).take k)) := hN
    clear hN
    by_cases hlt : k < L.length
    · have hz : (k : Int) < (L.length : Int) := by omega
      obtain ⟨e, he⟩ : ∃ e, L[k]? = some e := ⟨_, List.getElem?_eq_getElem hlt⟩
      obtain ⟨g, off, _, e1, hcell⟩ := HK.out.cell k e he
      cases e1
      have hok := HK.out.ok e (List.mem_of_getElem? he)
      have hsh : e.k.length ≤ 140737488355328 := hok.short
      obtain ⟨a, c, e2⟩ := hok.form
      rw [e2] at hcell
      have HS : Hid (N + (2 + e.k.length) = 2 + 4 * ps.length + bytesL ((keysOf L).take (k + 1))) := by
        rw [Hid, HN.out, bytesL_take _ _ _ (keysOf_get he)]
        omega
      clear he hok e2
      go_wp2
      exact ⟨⟨k + 1, N + (2 + e.k.length), by omega, by go_num, by go_num, HS.out, by first | trivial | rfl⟩, by simp [intOf]; omega⟩
    · have hz : ¬ (k : Int) < (L.length : Int) := by omega
      have HE : Hid (N = bytesK (kd ps L)) := by
        rw [Hid, HN.out, List.take_of_length_le (by rw [keysOf_length]; omega)]
        rfl
      go_wp2
      go_ret
      exact ⟨by rw [← HE.out]; rfl, HBW.out⟩

theorem less_is (a b : List UInt8) : Op.bytesLess a b = decide (a < b) := by
  induction a generalizing b with
  | nil => cases b <;> simp [Op.bytesLess]
  | cons x r ih =>
    cases b with
    | nil => simp [Op.bytesLess]
    | cons y t =>
      simp only [Op.bytesLess, ih, List.cons_lt_cons_iff]
      by_cases h : x = y <;> simp [h]
theorem strB_list (a : Key) : (strB a).toList = a := by rw [ByteArray.toList_eq]; simp [strB]
theorem strB_lt (a b : Key) : Op.bytesLess (strB a).toList (strB b).toList = decide (a < b) := by rw [strB_list, strB_list, less_is]
theorem strB_gt (a b : Key) : (!Op.bytesLess (strB a).toList (strB b).toList && !((strB a).toList == (strB b).toList)) = decide (b < a) := by
  rw [strB_lt, strB_eq]
  by_cases h : b < a
  · have h1 : ¬ a < b := by grind
    have h2 : a ≠ b := by grind
    simp [h, h1, h2]
  · by_cases h2 : a = b
    · simp [h2]
    · have h1 : a < b := by grind
      simp [h, h1]
set_option maxHeartbeats 800000 in
set_option maxRecDepth 100000 in
theorem refChild_any {w : World} {v u : Value} {ps : List Int} {L : List Kc} {key : Key} (h : KidsAt w.heap.size w v ps L) (hu : KeyAt w u key) :
    Calls Try.prog 35 #[v, u] w fun r w' => r = .returned (.int .i64 (childK (keysOf L) key : Nat)) ∧ Below w.heap.size w w' := by
  obtain ⟨vp, vk, rfl, h1, h2⟩ := h.is
  obtain ⟨a1, c1, rfl⟩ := h1.form
  obtain ⟨a2, c2, rfl⟩ := h2.form
  obtain ⟨a3, c3, rfl, _⟩ := id hu.is
  have hs2 := h2.short
  obtain ⟨W, hW⟩ : ∃ W, W = w.alloc (.cells #[.slice a1 ps.length c1, .slice a2 L.length c2] 26) := ⟨_, rfl⟩
  have HBW : Hid (Below w.heap.size w W) := by rw [hW]; exact below_new _ _
  have HK : Hid (KeysAt W.heap.size W (.slice a2 L.length c2) L) := h2.here HBW.out
  have HU : Hid (KeyAt W (.slice a3 key.length c3) key) := hu.here HBW.out
  have HX : Hid (KBox W w.heap.size (.slice a1 ps.length c1) (.slice a2 L.length c2)) := by rw [hW]; exact KBox.new _ _ _
  clear h h1 h2 hu
  go_enter Try.func35, Try.ntmps35
  go_wp2
  rw [← hW]
  clear hW
  obtain ⟨k0, k1⟩ := HX.out.cells
  go_loopw [5] (fun i wx => ∃ (k : Nat), k ≤ L.length ∧ i = .int .i64 k ∧ (∀ (i : Nat) x, i < k → (keysOf L)[i]? = some x → x ≤ key) ∧ ∃ q, wx = W.drewN q) (fun i _ => L.length - (intOf i).toNat)
  case atStart => exact ⟨0, by omega, rfl, fun i x hi => absurd hi (by omega), 0, rfl⟩
  case round =>
    obtain ⟨k, hk, rfl, ha, q, rfl⟩ := hrel
    have HA : Hid (∀ (i : Nat) x, i < k → (keysOf L)[i]? = some x → x ≤ key) := ha
    clear ha
    by_cases hlt : k < L.length
    · have hz : (k : Int) < (L.length : Int) := by omega
      obtain ⟨e, he⟩ : ∃ e, L[k]? = some e := ⟨_, List.getElem?_eq_getElem hlt⟩
      obtain ⟨g, off, _, e1, hcell⟩ := HK.out.cell k e he
      cases e1
      have HOK : Hid (KeyIn W.heap.size W e.v e.k) := HK.out.ok e (List.mem_of_getElem? he)
      have HE : Hid ((keysOf L)[k]? = some e.k) := keysOf_get he
      have v1 : ∀ q, Sem.run Try.prog (convert 27 9 e.v) (W.drewN q) = .ok (.string (strB e.k)) (W.drewN q) := fun q => conv_key ((HOK.out.at (Nat.le_refl _)).draws q)
      have v2 : ∀ q, Sem.run Try.prog (convert 27 9 (.slice a3 key.length c3)) (W.drewN q) = .ok (.string (strB key)) (W.drewN q) := fun q => conv_key (HU.out.draws q)
      have s1 := strB_gt e.k key
      clear he
      by_cases hc : key < e.k
      · have HR : Hid (childK (keysOf L) key = k) := childK_is (by rw [keysOf_length]; omega) HA.out (fun x hx => by rw [HE.out] at hx; cases hx; exact hc)
        rw [decide_eq_true hc] at s1
        clear hc
        generalize strB e.k = S1 at v1 s1
        generalize strB key = S2 at v2 s1
        go_wp2_with fail
        go_quiet (fail)
        go_wp2
        go_ret
        exact ⟨by rw [HR.out]; rfl, below_draws (below_draws HBW.out _) _⟩
      · have HS : Hid (∀ (i : Nat) x, i < k + 1 → (keysOf L)[i]? = some x → x ≤ key) := fun i x hi hx => by
          rcases Nat.lt_or_ge i k with h | h
          · exact HA.out i x h hx
          · have : i = k := by omega
            subst this
            rw [HE.out] at hx
            cases hx
            grind
        rw [decide_eq_false hc] at s1
        clear hc
        generalize strB e.k = S1 at v1 s1
        generalize strB key = S2 at v2 s1
        go_wp2_with fail
        go_quiet (fail)
        go_wp2
        exact ⟨⟨k + 1, by omega, by go_num, HS.out, _, rfl⟩, by simp [intOf]; omega⟩
    · have hz : ¬ (k : Int) < (L.length : Int) := by omega
      have HR : Hid (childK (keysOf L) key = L.length) := by
        have h := childK_is (ks := keysOf L) (k := key) (n := k) (by rw [keysOf_length]; omega) HA.out (fun x hx => by
          have := (List.getElem?_eq_some_iff.1 hx).1
          rw [keysOf_length] at this
          omega)
        rw [Hid, h]; omega
      go_wp2
      go_ret
      exact ⟨by rw [HR.out]; rfl, below_draws HBW.out _⟩
end Go.Proofs.Ytaehchijeinloaa
