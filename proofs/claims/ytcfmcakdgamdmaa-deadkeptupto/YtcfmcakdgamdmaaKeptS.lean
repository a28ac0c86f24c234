/- The law's needs, has, any. -/
import Derived.Test.YtcfmcakdgamdmaaOrderW
import Derived.Test.YtcfmcakdgamdmaaKeptP
import Derived.Test.YtcfmcakdgamdmaaSortAll
import Derived.Deep.RegionHeldLaw
namespace Go.Proofs.Ytcfmcakdgamdmaa
open Go.RowKit

theorem lneeds_any (w : World) (g : Int) (x : Lf) : Calls Try.prog 15 #[.int .u64 g, .agg #[.int .i64 x.p, .int .u64 x.b, .int .u64 x.d]] w fun e w' => e = .returned (.bool (needsL g x)) ∧ Below w.heap.size w w' := by
  unfold needsL
  by_cases h : x.b ≤ g
  · have e1 : decide (x.b ≤ g) = true := by simpa using h
    rw [e1, Bool.true_and]
    clear e1
    go_enter Try.func15, Try.ntmps15
    go_wp2
    go_ret
    exact ⟨rfl, below_new _ _⟩
  · have e1 : decide (x.b ≤ g) = false := by simpa using h
    rw [e1, Bool.false_and]
    clear e1
    go_enter Try.func15, Try.ntmps15
    go_wp2
    go_ret
    exact ⟨rfl, below_new _ _⟩
set_option maxHeartbeats 800000 in
set_option maxRecDepth 100000 in
theorem has_any {w : World} {v : Value} {x : List Int} (n : Int) (hx : IntsAt w v x) (hs : x.length ≤ 140737488355328) :
    Calls Try.prog 16 #[v, .int .i64 n] w fun e w' => e = .returned (.bool (decide (n ∈ x))) ∧ Below w.heap.size w w' := by
  obtain ⟨a, ca, rfl⟩ := hx.form
  have HX : Hid _ := hx
  clear hx
  go_enter Try.func16, Try.ntmps16
  go_wp2_with fail
  go_loopw [5] (fun i wx => ∃ k : Nat, k ≤ x.length ∧ i = .int .i64 k ∧ n ∉ x.take k ∧ Below w.heap.size w wx) (fun i _ => x.length - (intOf i).toNat)
  case atStart => exact ⟨0, Nat.zero_le _, rfl, by simp, Below.refl _ _⟩
  case round =>
    obtain ⟨k, hk, rfl, ht, hb⟩ := hrel
    have HT : Hid _ := ht
    have HB : Hid _ := hb
    clear ht
    by_cases hlt : k < x.length
    · have hz : (k : Int) < (x.length : Int) := by omega
      obtain ⟨p, hp⟩ : ∃ p, x[k]? = some p := ⟨_, List.getElem?_eq_getElem hlt⟩
      obtain ⟨g, o, rfl, _, c1⟩ := ints_cell (HX.out.here hb) hp
      have HP : Hid _ := hp
      clear hp hb
      by_cases e : p = n
      · have HM : Hid (decide (n ∈ x) = true) := by show _ = _; simp; rw [← e]; exact List.mem_of_getElem? HP.out
        subst e
        go_wp2_with fail
        go_ret
        exact ⟨ret_bool HM.out.symm, HB.out⟩
      · have hne : (p == n) = false := by simpa using e
        have HTK : Hid (n ∉ x.take (k + 1)) := by
          show ¬ _
          rw [List.take_add_one, HP.out]
          simp only [Option.toList_some, List.mem_append, List.mem_singleton, not_or]
          exact ⟨HT.out, fun h => e h.symm⟩
        go_wp2_with fail
        exact ⟨⟨k + 1, by omega, by go_num, HTK.out, HB.out⟩, by simp [intOf]; omega⟩
    · have hz : ¬ (k : Int) < (x.length : Int) := by omega
      have HM : Hid (decide (n ∈ x) = false) := by
        have := HT.out
        rw [List.take_of_length_le (by omega)] at this
        show _ = _
        simpa using this
      clear hb
      go_wp2_with fail
      go_ret
      exact ⟨ret_bool HM.out.symm, HB.out⟩
set_option maxHeartbeats 800000 in
set_option maxRecDepth 100000 in
theorem has_same {w : World} {v : Value} {x : List Int} (n : Int) (hx : IntsAt w v x) (hs : x.length ≤ 140737488355328) :
    Calls Try.prog 16 #[v, .int .i64 n] w fun e w' => e = .returned (.bool (decide (n ∈ x))) ∧ w' = w := by
  obtain ⟨a, ca, rfl⟩ := hx.form
  have HX : Hid _ := hx
  clear hx
  go_enter Try.func16, Try.ntmps16
  go_wp2_with fail
  go_loopw [5] (fun i wx => ∃ k : Nat, k ≤ x.length ∧ i = .int .i64 k ∧ n ∉ x.take k ∧ wx = w) (fun i _ => x.length - (intOf i).toNat)
  case atStart => exact ⟨0, Nat.zero_le _, rfl, by simp, rfl⟩
  case round =>
    obtain ⟨k, hk, rfl, ht, hw⟩ := hrel
    obtain rfl := hw.symm
    have HT : Hid _ := ht
    clear ht
    by_cases hlt : k < x.length
    · have hz : (k : Int) < (x.length : Int) := by omega
      obtain ⟨p, hp⟩ : ∃ p, x[k]? = some p := ⟨_, List.getElem?_eq_getElem hlt⟩
      obtain ⟨g, o, rfl, _, c1⟩ := ints_cell (HX.out) hp
      have HP : Hid _ := hp
      clear hp
      by_cases e : p = n
      · have HM : Hid (decide (n ∈ x) = true) := by show _ = _; simp; rw [← e]; exact List.mem_of_getElem? HP.out
        subst e
        go_wp2_with fail
        go_ret
        exact ⟨ret_bool HM.out.symm, rfl⟩
      · have hne : (p == n) = false := by simpa using e
        have HTK : Hid (n ∉ x.take (k + 1)) := by
          show ¬ _
          rw [List.take_add_one, HP.out]
          simp only [Option.toList_some, List.mem_append, List.mem_singleton, not_or]
          exact ⟨HT.out, fun h => e h.symm⟩
        go_wp2_with fail
        exact ⟨⟨k + 1, by omega, by go_num, HTK.out, by first | rfl | trivial⟩, by simp [intOf]; omega⟩
    · have hz : ¬ (k : Int) < (x.length : Int) := by omega
      have HM : Hid (decide (n ∈ x) = false) := by
        have := HT.out
        rw [List.take_of_length_le (by omega)] at this
        show _ = _
        simpa using this
      go_wp2_with fail
      go_ret
      exact ⟨ret_bool HM.out.symm, rfl⟩
set_option maxHeartbeats 800000 in
set_option maxRecDepth 100000 in
theorem lany_any {w : World} {v : Value} {S : List Int} (x : Lf) (hS : U64At w v S) (hs : S.length ≤ 140737488355328) :
    Calls Try.prog 18 #[v, .agg #[.int .i64 x.p, .int .u64 x.b, .int .u64 x.d]] w fun e w' => e = .returned (.bool (anyL S x)) ∧ Below w.heap.size w w' := by
  obtain ⟨W, hW⟩ : ∃ W, W = w.alloc (.cells #[.int .i64 x.p, .int .u64 x.b, .int .u64 x.d] 34) := ⟨_, rfl⟩
  have hxc : W.heap[w.heap.size]? = some (.cells #[.int .i64 x.p, .int .u64 x.b, .int .u64 x.d] 34 (0, 0)) := by rw [hW]; exact heap_alloc_last w _
  have hbW : Below w.heap.size w W := by rw [hW]; exact below_new w _
  have HXC : Hid _ := hxc
  have HBW : Hid _ := hbW
  obtain ⟨a, ca, rfl⟩ := hS.form
  have HS : Hid _ := hS.here hbW
  have hszW : W.heap.size = w.heap.size + 1 := by rw [hW]; simp
  clear hS hxc hbW
  go_enter Try.func18, Try.ntmps18
  go_wp2_with fail
  rw [← hW]
  clear hW
  go_loopw [5] (fun i wx => ∃ k : Nat, k ≤ S.length ∧ i = .int .i64 k ∧ anyL (S.take k) x = false ∧ Below W.heap.size W wx) (fun i _ => S.length - (intOf i).toNat)
  case atStart => exact ⟨0, Nat.zero_le _, rfl, rfl, Below.refl _ _⟩
  case round =>
    obtain ⟨k, hk, rfl, ht, hb⟩ := hrel
    have HT : Hid _ := ht
    have HB : Hid _ := hb
    clear ht
    by_cases hlt : k < S.length
    · have hz : (k : Int) < (S.length : Int) := by omega
      obtain ⟨s, hs1⟩ : ∃ s, S[k]? = some s := ⟨_, List.getElem?_eq_getElem hlt⟩
      obtain ⟨g, off, rfl, hg, k0⟩ := u64s_cell (HS.out.here hb) hs1
      have hxc : wr.heap[w.heap.size]? = some (.cells #[.int .i64 x.p, .int .u64 x.b, .int .u64 x.d] 34 (0, 0)) := by rw [hb.block _ (by omega)]; exact HXC.out
      have x0 : wr.cell? ⟨w.heap.size, 0, none⟩ = some (.int .i64 x.p) := row_cell hxc 0
      have x1 : wr.cell? ⟨w.heap.size, 1, none⟩ = some (.int .u64 x.b) := row_cell hxc 1
      have x2 : wr.cell? ⟨w.heap.size, 2, none⟩ = some (.int .u64 x.d) := row_cell hxc 2
      have hxl : w.heap.size < wr.heap.size := (Array.getElem?_eq_some_iff.1 hxc).1
      have HSK : Hid _ := hs1
      have HN : Hid (∀ W', Calls Try.prog 15 #[.int .u64 s, .agg #[.int .i64 x.p, .int .u64 x.b, .int .u64 x.d]] W' fun r w' => r = .returned (.bool (needsL s x)) ∧ Below W'.heap.size W' w') := fun W' => lneeds_any W' s x
      have HTS : Hid (∀ bb, needsL s x = bb → anyL (S.take (k + 1)) x = bb) := fun bb hbb => by
        rw [List.take_add_one, HSK.out]
        unfold anyL
        rw [List.any_append]
        have := HT.out
        unfold anyL at this
        rw [this]
        simp [hbb]
      have HTA : Hid (needsL s x = true → anyL S x = true) := fun h => any_of (List.mem_of_getElem? HSK.out) h
      generalize needsL s x = bb at HN HTS HTA
      clear hs1 hb hxc
      go_wp2_with fail
      cases bb
      · go_region_held_law (fun W' => W'.cell? ⟨w.heap.size, 0, none⟩ = some (.int .i64 x.p) ∧ W'.cell? ⟨w.heap.size, 1, none⟩ = some (.int .u64 x.b) ∧ W'.cell? ⟨w.heap.size, 2, none⟩ = some (.int .u64 x.d) ∧ W'.cell? ⟨g, off + k, none⟩ = some (.int .u64 s)) (first | go_keep | (refine ⟨?_, ?_, ?_, ?_⟩ <;> assumption))
          (
            (go_at_call 15
             refine (HN.out _).mono ?_
             rintro r w3 ⟨rfl, hb3⟩
             have y0 := (hb3.cell (p := ⟨w.heap.size, 0, none⟩) hxl).trans x0
             have y1 := (hb3.cell (p := ⟨w.heap.size, 1, none⟩) hxl).trans x1
             have y2 := (hb3.cell (p := ⟨w.heap.size, 2, none⟩) hxl).trans x2
             have y3 := (hb3.cell (p := ⟨g, off + k, none⟩) hg).trans k0
             have HB3 : Hid _ := hb3
             clear hb3))
        go_wp2_with fail
        exact ⟨⟨k + 1, by omega, by go_num, HTS.out _ rfl, Below.trans (below_drew HB.out) (Below.mono HB3.out (Below.size (below_drew HB.out)))⟩, by simp [intOf]; omega⟩
      · go_region_held_law (fun W' => W'.cell? ⟨w.heap.size, 0, none⟩ = some (.int .i64 x.p) ∧ W'.cell? ⟨w.heap.size, 1, none⟩ = some (.int .u64 x.b) ∧ W'.cell? ⟨w.heap.size, 2, none⟩ = some (.int .u64 x.d) ∧ W'.cell? ⟨g, off + k, none⟩ = some (.int .u64 s)) (first | go_keep | (refine ⟨?_, ?_, ?_, ?_⟩ <;> assumption))
          (
            (go_at_call 15
             refine (HN.out _).mono ?_
             rintro r w3 ⟨rfl, hb3⟩
             have y0 := (hb3.cell (p := ⟨w.heap.size, 0, none⟩) hxl).trans x0
             have y1 := (hb3.cell (p := ⟨w.heap.size, 1, none⟩) hxl).trans x1
             have y2 := (hb3.cell (p := ⟨w.heap.size, 2, none⟩) hxl).trans x2
             have y3 := (hb3.cell (p := ⟨g, off + k, none⟩) hg).trans k0
             have HB3 : Hid _ := hb3
             clear hb3))
        go_wp2_with fail
        go_ret
        exact ⟨ret_bool (HTA.out (by first | rfl | trivial)).symm, Below.trans HBW.out (Below.mono (Below.trans (below_drew HB.out) (Below.mono HB3.out (Below.size (below_drew HB.out)))) (Below.size HBW.out))⟩
    · have hz : ¬ (k : Int) < (S.length : Int) := by omega
      have HM : Hid (anyL S x = false) := by
        have := HT.out
        rw [List.take_of_length_le (by omega)] at this
        exact this
      clear hb
      go_wp2_with fail
      go_ret
      exact ⟨ret_bool HM.out.symm, Below.trans HBW.out (Below.mono HB.out (Below.size HBW.out))⟩
end Go.Proofs.Ytcfmcakdgamdmaa
