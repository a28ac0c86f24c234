/- Choose, Count, Settles: the program's. -/
import Derived.Test.YtejenfcfngjaaaaChooser
import Derived.Shelf.Abstract
namespace Go.Proofs.Ytejenfcfngjaaaa
open Go.RowKit Go.Shelf

def ansI (c : Ch) (W : List Int) : Int := if mayI W W.length = [] then 0 else c.chosen W (mayI W W.length)
def ansE (W : List Int) : Int := if mayI W W.length = [] then 162 else 0
def nextC (c : Ch) (W : List Int) : Ch := if mayI W W.length = [] then c else c.step W
theorem Ch.Ok.step {c : Ch} (h : c.Ok) {W : List Int} (hm : mayI W W.length ≠ []) (hc : c.count < 4000000000000000000) (hW : W.length * 8 ≤ 140737488355328) : (c.step W).Ok := by
  obtain ⟨i, hi, hl, _⟩ := mayI_mem (c.chosen_mem (W := W) hm)
  refine ⟨h.may, ?_, ?_, ?_, h.pick⟩
  · show -1 ≤ c.chosen W _; rw [hi]; omega
  · show c.chosen W _ ≤ _; rw [hi]; omega
  · show c.count + 1 ≤ _; omega
/-- What Choose leaves. -/
structure ChosenPost (T : TypeId) (base : Nat) (w : World) (b : Nat) (v : Value) (c : Ch) (W : List Int) (e : Ending) (w' : World) : Prop where
  is : e = .returned (.tuple #[.int .i64 (ansI c W), .int .i64 (ansE W)])
  at_ : ChT T base w' b v (nextC c W)
  kept : Kept (fun k => k = b) w w'
theorem chs_step (c : Ch) (v : Value) (W : List Int) : ((chs c v).setIfInBounds 2 (.int .i64 (c.chosen W (mayI W W.length)))).setIfInBounds 3 (.int .i64 ((c.count : Int) + 1)) = chs (c.step W) v := by
  simp [chs, Ch.step]
theorem ChT.stepped {T : TypeId} {base b : Nat} {w : World} {v : Value} {c : Ch} {W : List Int} (h : ChT T base w b v c) (hT : T ≠ 3) (ok : (c.step W).Ok) :
    ChT T base ((w.setCell ⟨b, 2, none⟩ (.int .i64 (c.chosen W (mayI W W.length)))).setCell ⟨b, 3, none⟩ (.int .i64 ((c.count : Int) + 1))) b v (c.step W) := by
  have hne : ∀ k, v.ownBlock = some k → ¬ k = b := fun k hk e => by
    obtain ⟨_, _, cur, hc⟩ := own_type h.row k hk
    rw [e, h.cells] at hc
    simp at hc
    exact hT hc.2
  exact ⟨by rw [heap_set_same _ (heap_set_same _ h.cells), chs_step], own_kept (own_kept h.row (setCell_kept _) hne) (setCell_kept _) hne, h.low, ok⟩
theorem rule_of {k : Int} (h1 : 1 ≤ k) (h4 : k ≤ 4) : ruleV k = .func (.func (if k = 1 ∨ k = 3 then 25 else if k = 2 then 26 else 27)) #[] #[] := by
  have hk : k = 1 ∨ k = 2 ∨ k = 3 ∨ k = 4 := by omega
  rcases hk with rfl | rfl | rfl | rfl <;> rfl
/-- The rule of a chooser's kind. -/
theorem rules_any {base b : Nat} {w : World} {v pv u : Value} {c : Ch} {W C : List Int} (h : ChAt base w b pv c) (hv : IntsAt w v W) (hu : IntsAt w u C) (hC : Cands W C) (h0 : C ≠ []) (hs : W.length ≤ 140737488355328) :
    ∃ n, ruleV c.kind = .func (.func n) #[] #[] ∧ (∀ args w, (callFunc n args).run Try.prog w = .ok (.enter n args) w) ∧
    Calls Try.prog n #[.pointer (some ⟨b, 0, none⟩), v, u] w fun e w' => e = .returned (.int .i64 (c.chosen W C)) ∧ Below w.heap.size w w' := by
  have hk : c.kind = 1 ∨ c.kind = 2 ∨ c.kind = 3 ∨ c.kind = 4 := by have := h.ok.kinds; omega
  rcases hk with hk | hk | hk | hk
  · refine ⟨25, by rw [hk]; rfl, enters_of Try.func25 (by kernel_rfl) rfl, ?_⟩
    rw [show c.chosen W C = bestTo W C C.length by unfold Ch.chosen; rw [if_neg (by omega), if_neg (by omega)]]
    exact greatest_any hv hu hC h0 hs
  · refine ⟨26, by rw [hk]; rfl, enters_of Try.func26 (by kernel_rfl) rfl, ?_⟩
    rw [show c.chosen W C = nextOf C c.last by unfold Ch.chosen; rw [if_pos hk]]
    refine (following_any h hu hC h0 hs).mono ?_
    rintro e w' ⟨rfl, rfl⟩
    exact ⟨rfl, Below.refl _ _⟩
  · refine ⟨25, by rw [hk]; rfl, enters_of Try.func25 (by kernel_rfl) rfl, ?_⟩
    rw [show c.chosen W C = bestTo W C C.length by unfold Ch.chosen; rw [if_neg (by omega), if_neg (by omega)]]
    exact greatest_any hv hu hC h0 hs
  · refine ⟨27, by rw [hk]; rfl, enters_of Try.func27 (by kernel_rfl) rfl, ?_⟩
    have e1 : c.chosen W C = if c.picks = [] then bestTo W C C.length else C.getD ((fold c.pick).toNat % C.length) 0 := by
      unfold Ch.chosen
      rw [if_neg (by omega)]
      by_cases hp : c.picks = []
      · rw [if_neg (fun x => x.2 hp), if_pos hp]
      · rw [if_pos ⟨hk, hp⟩, if_neg hp]
    rw [e1]
    exact picked_any h hv hu hC h0 hs
set_option maxHeartbeats 1600000 in
set_option maxRecDepth 100000 in
theorem choose_any {base b : Nat} {w : World} {v pv : Value} {c : Ch} {W : List Int} (h : ChAt base w b pv c) (hv : IntsAt w v W) (hs : W.length * 8 ≤ 140737488355328) (hc : c.count < 4000000000000000000) :
    Calls Try.prog 14 #[.pointer (some ⟨b, 0, none⟩), v] w fun e w' => ChosenPost 56 base w b pv c W e w' := by
  have HCA := cands_any hv hs
  obtain ⟨av, nv, rfl⟩ := hv.form
  have HV : Hid (IntsAt w (.slice av W.length nv) W) := hv
  have HH : Hid _ := h
  have HA : Hid (Cands W (mayI W W.length)) := cands_may W
  clear hv h
  by_cases hm : mayI W W.length = []
  · have HM : Hid _ := hm
    rw [hm] at HCA
    clear hm
    go_enter Try.func14, Try.ntmps14
    go_wp2_with fail
    refine HCA.mono ?_
    rintro e w1 ⟨v1, rfl, hn, hb⟩
    obtain ⟨a1, n1, rfl⟩ := own_slice hn
    have HB : Hid _ := hb
    clear hn hb HCA
    go_wp2_with fail
    go_ret2
    exact ⟨by unfold ansI ansE; rw [if_pos HM.out, if_pos HM.out]; rfl, by unfold nextC; rw [if_pos HM.out]; exact HH.out.here HB.out, Kept.of_below HB.out⟩
  · have hl : 0 < (mayI W W.length).length := List.length_pos_iff.2 hm
    have hlz : (((mayI W W.length).length : Int) == 0) = false := by rw [beq_eq_false_iff_ne]; omega
    have HM : Hid _ := hm
    have HOK : Hid _ := HH.out.ok.step hm hc hs
    clear hm
    go_enter Try.func14, Try.ntmps14
    go_wp2_with fail
    refine HCA.mono ?_
    rintro e w1 ⟨v1, rfl, hn, hb⟩
    obtain ⟨a1, n1, rfl⟩ := own_slice hn
    have HH1 : Hid _ := HH.out.here hb
    have HV1 : Hid _ := HV.out.here hb
    have c0 : w1.cell? ⟨b, 0, none⟩ = some (.int .i64 c.kind) := HH1.out.cell 0
    have HB : Hid _ := hb
    have HN : Hid _ := hn
    have HRU := rule_any w1 c.kind
    clear hn hb HCA
    go_wp2_with fail
    refine HRU.mono ?_
    rintro e w2 ⟨rfl, hb2⟩
    have hh2 := HH1.out.here hb2
    obtain ⟨N, hN, hEN, hCN⟩ := rules_any hh2 (HV1.out.here hb2) (RowAt.own (own_here HN.out hb2)) HA.out HM.out (by omega)
    rw [hN]
    have HH2 : Hid _ := hh2
    have HB2 : Hid _ := hb2
    have HCN : Hid _ := hCN
    clear hh2 hb2 HRU hN hCN
    go_wp2_with fail
    refine Calls.mono HCN.out ?_
    rintro e w3 ⟨rfl, hb3⟩
    have hh3 := HH2.out.here hb3
    have HK : Hid (Below w.heap.size w w3) := (HB.out.trans (HB2.out.mono HB.out.size)).trans (hb3.mono (Nat.le_trans HB.out.size HB2.out.size))
    have d2 : w3.cell? ⟨b, 2, none⟩ = some (.int .i64 c.last) := hh3.cell 2
    have d3 : w3.cell? ⟨b, 3, none⟩ = some (.int .i64 (c.count : Int)) := hh3.cell 3
    have f2 : w3.frozen? ⟨b, 2, none⟩ = false := row_frozen hh3.cells 2
    have f3 : w3.frozen? ⟨b, 3, none⟩ = false := row_frozen hh3.cells 3
    have HH3 : Hid _ := hh3
    have HX : Hid (∃ x, x = c.chosen W (mayI W W.length)) := ⟨_, rfl⟩
    obtain ⟨x, hx⟩ := HX.out
    rw [← hx]
    have HXX : Hid _ := hx
    have hcz : (c.count : Int) < 4000000000000000000 := by omega
    clear hh3 hb3 hx HX HCN
    go_wp2_with fail
    go_ret2
    refine ⟨?_, ?_, ?_⟩
    · unfold ansI ansE
      rw [if_neg HM.out, if_neg HM.out, HXX.out]
      rfl
    · unfold nextC
      rw [if_neg HM.out, HXX.out]
      exact HH3.out.stepped (by decide) HOK.out
    · exact (Kept.of_below HK.out).trans ((setCell_kept _).trans (setCell_kept _) (fun _ _ => id)) (fun _ _ => id)
theorem count_any {base b : Nat} {w : World} {pv : Value} {c : Ch} (h : ChAt base w b pv c) : Calls Try.prog 16 #[.pointer (some ⟨b, 0, none⟩)] w fun e w' => e = .returned (.int .i64 (c.count : Int)) ∧ w' = w := by
  have d3 : w.cell? ⟨b, 3, none⟩ = some (.int .i64 (c.count : Int)) := h.cell 3
  clear h
  go_enter Try.func16, Try.ntmps16
  go_wp2
  go_ret
  exact ⟨rfl, rfl⟩
theorem settles_any {base b : Nat} {w : World} {pv : Value} {c : Ch} (h : ChAt base w b pv c) : Calls Try.prog 17 #[.pointer (some ⟨b, 0, none⟩)] w fun e w' => e = .returned (.bool (c.kind == 3)) ∧ w' = w := by
  have d0 : w.cell? ⟨b, 0, none⟩ = some (.int .i64 c.kind) := h.cell 0
  clear h
  go_enter Try.func17, Try.ntmps17
  go_wp2
  go_ret
  exact ⟨rfl, rfl⟩
theorem rsettles_any {base b : Nat} {w : World} {pv : Value} {c : Ch} (h : RefAt base w b pv c) : Calls Try.prog 18 #[.pointer (some ⟨b, 0, none⟩)] w fun e w' => e = .returned (.bool (c.kind == 3)) ∧ w' = w := by
  have d0 : w.cell? ⟨b, 0, none⟩ = some (.int .i64 c.kind) := h.cell 0
  clear h
  go_enter Try.func18, Try.ntmps18
  go_wp2
  go_ret
  exact ⟨rfl, rfl⟩
end Go.Proofs.Ytejenfcfngjaaaa
