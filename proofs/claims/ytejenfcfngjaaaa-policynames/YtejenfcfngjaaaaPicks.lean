/- The rule of a script; ruleOf; Check. -/
import Derived.Test.YtejenfcfngjaaaaRules
import Derived.Laws.EntriesVeiled
namespace Go.Proofs.Ytejenfcfngjaaaa
open Go.RowKit

theorem fold_neg {p : Int} (h : p < 0) : fold p = -(p + 1) := by simp [fold, h]
theorem fold_pos {p : Int} (h : ¬ p < 0) : fold p = p := by simp [fold, h]
set_option maxHeartbeats 1600000 in
set_option maxRecDepth 100000 in
theorem picked_any {base b : Nat} {w : World} {v pv u : Value} {c : Ch} {W C : List Int} (h : ChAt base w b pv c) (hv : IntsAt w v W) (hu : IntsAt w u C) (hC : Cands W C) (h0 : C ≠ []) (hs : W.length ≤ 140737488355328) :
    Calls Try.prog 27 #[.pointer (some ⟨b, 0, none⟩), v, u] w fun e w' => e = .returned (.int .i64 (if c.picks = [] then bestTo W C C.length else C.getD ((fold c.pick).toNat % C.length) 0)) ∧ Below w.heap.size w w' := by
  have c1 : w.cell? ⟨b, 1, none⟩ = some pv := h.cell 1
  have c3 : w.cell? ⟨b, 3, none⟩ = some (.int .i64 (c.count : Int)) := h.cell 3
  obtain ⟨ap, cp, epv⟩ := own_slice h.row
  have hmany := h.ok.many
  have hsh := h.ok.short
  have hl : 0 < C.length := List.length_pos_iff.2 h0
  have hcl := hC.len
  by_cases hp : c.picks = []
  · have hpl : c.picks.length = 0 := by rw [hp]; rfl
    rw [if_pos hp]
    rw [hpl] at epv
    have HG := greatest_any (p := .pointer (some ⟨b, 0, none⟩)) hv hu hC h0 hs
    subst epv
    obtain ⟨a1, n1, rfl⟩ := hv.form
    obtain ⟨a2, n2, rfl⟩ := hu.form
    clear h hv hu hC h0 hp
    go_enter Try.func27, Try.ntmps27
    go_wp2_with (go_at_call 25; refine HG.mono ?_; rintro r w1 ⟨rfl, hb⟩; have HB1 : Hid _ := hb; clear hb)
    go_ret
    exact ⟨rfl, HB1.out⟩
  · rw [if_neg hp]
    have hpl : 0 < c.picks.length := List.length_pos_iff.2 hp
    have hpz : ((c.picks.length : Int) == 0) = false := by rw [beq_eq_false_iff_ne]; omega
    have hpz2 : ¬ (c.picks.length : Int) = 0 := by omega
    have hm2 : c.count % c.picks.length < c.picks.length := Nat.mod_lt _ hpl
    obtain ⟨y, hy⟩ : ∃ y, c.picks[c.count % c.picks.length]? = some y := ⟨_, List.getElem?_eq_getElem hm2⟩
    have hpick : c.pick = y := by unfold Ch.pick; rw [List.getD_eq_getElem?_getD, hy]; rfl
    have hyr := h.ok.pick y (List.mem_of_getElem? hy)
    have hr := RowAt.own h.row
    subst epv
    obtain ⟨g, off, rfl, hg, k0⟩ := ints_cell hr hy
    have hq0 : (0 : Int) ≤ (c.count : Int) % (c.picks.length : Int) := by omega
    have hq1 : (c.count : Int) % (c.picks.length : Int) < (c.picks.length : Int) := by omega
    have hq2 : ((c.count : Int) % (c.picks.length : Int)).toNat = c.count % c.picks.length := by omega
    rw [hpick]
    obtain ⟨q, hq⟩ : ∃ q : Nat, fold y = (q : Int) ∧ (q : Int) ≤ 9223372036854775807 := by
      refine ⟨(fold y).toNat, ?_, ?_⟩ <;> unfold fold <;> split <;> omega
    obtain ⟨hq, hqm⟩ := hq
    rw [hq, Int.toNat_natCast]
    have hm5 : q % C.length < C.length := Nat.mod_lt _ hl
    obtain ⟨z, hz⟩ : ∃ z, C[q % C.length]? = some z := ⟨_, List.getElem?_eq_getElem hm5⟩
    obtain ⟨a2, n2, rfl⟩ := hu.form
    obtain ⟨g2, off2, rfl, hg2, k2⟩ := ints_cell hu hz
    have HR : Hid (C.getD (q % C.length) 0 = z) := by rw [Hid, List.getD_eq_getElem?_getD, hz]; rfl
    rw [HR.out]
    clear HR
    have hlz : ¬ (C.length : Int) = 0 := by omega
    have hr0 : (0 : Int) ≤ (q : Int) % (C.length : Int) := by omega
    have hr1 : (q : Int) % (C.length : Int) < (C.length : Int) := by omega
    have hr2 : ((q : Int) % (C.length : Int)).toNat = q % C.length := by omega
    by_cases hn : y < 0
    · rw [fold_neg hn] at hq
      have hw1 : IntKind.i64.wrap (-(y + 1)) = (q : Int) := by rw [hq]; exact IntWalk.i64_in _ ⟨by omega, by omega⟩
      clear h hv hu hC h0 hp hy hpick hr hz
      have HQ : Hid _ := hq
      go_enter Try.func27, Try.ntmps27
      go_wp2_with fail
      go_simp
      go_wp2_with fail
      go_ret
      exact ⟨rfl, Below.refl _ _⟩
    · rw [fold_pos hn] at hq
      subst hq
      clear h hv hu hC h0 hp hy hpick hr hz
      go_enter Try.func27, Try.ntmps27
      go_wp2_with fail
      go_simp
      go_wp2_with fail
      go_simp
      go_wp2_with fail
      go_ret
      exact ⟨rfl, Below.refl _ _⟩
/-- The function that is a kind's rule. -/
def ruleV (k : Int) : Value := if k = 1 ∨ k = 3 then .func (.func 25) #[] #[] else if k = 2 then .func (.func 26) #[] #[] else if k = 4 then .func (.func 27) #[] #[] else .nilFunc
set_option maxHeartbeats 1600000 in
set_option maxRecDepth 100000 in
theorem rule_any (w : World) (k : Int) : Calls Try.prog 19 #[.int .i64 k] w fun e w' => e = .returned (ruleV k) ∧ Below w.heap.size w w' := by
  by_cases hn : k < 0
  · have HR : Hid (ruleV k = .nilFunc) := by unfold Hid ruleV; rw [if_neg (by omega), if_neg (by omega), if_neg (by omega)]
    rw [HR.out]
    go_enter Try.func19, Try.ntmps19
    go_wp2
    go_ret
    exact ⟨rfl, below_new _ _⟩
  by_cases h5 : k ≥ 5
  · have HR : Hid (ruleV k = .nilFunc) := by unfold Hid ruleV; rw [if_neg (by omega), if_neg (by omega), if_neg (by omega)]
    rw [HR.out]
    go_enter Try.func19, Try.ntmps19
    go_wp2
    go_ret
    exact ⟨rfl, below_new _ _⟩
  have hk : k = 0 ∨ k = 1 ∨ k = 2 ∨ k = 3 ∨ k = 4 := by omega
  rcases hk with rfl | rfl | rfl | rfl | rfl
  all_goals
    clear hn h5
    go_enter Try.func19, Try.ntmps19
    go_wp2
    go_ret
    exact ⟨rfl, below_new _ _⟩
theorem eqIn_nil_nil (w : World) (d : Nat) : (Op.equalIn (d + 1) 53 .nilFunc .nilFunc).run Try.prog w = .ok true w := by simp [Op.equalIn, run_underlying Try.underlying53]
theorem eqIn_fn_nil (w : World) (d : Nat) (f : Fn) (x y : Array Value) : (Op.equalIn (d + 1) 53 (.func f x y) .nilFunc).run Try.prog w = .ok false w := by simp [Op.equalIn, run_underlying Try.underlying53]
theorem eq_nil_nil (w : World) : (binOp .eql 53 .nilFunc .nilFunc).run Try.prog w = .ok (.bool true) w := by
  simp only [binOp]
  simp [Op.equal, Op.maxDepth, eqIn_nil_nil w 9999]
theorem eq_fn_nil (w : World) (f : Fn) (x y : Array Value) : (binOp .eql 53 (.func f x y) .nilFunc).run Try.prog w = .ok (.bool false) w := by
  simp only [binOp]
  simp [Op.equal, Op.maxDepth, eqIn_fn_nil w 9999]
/-- What Check says. -/
def polE (kind : Int) (picks : List Int) : Int := if okP kind picks = true then 0 else 161
theorem rule_nil {k : Int} (h : k < 1 ∨ 4 < k) : ruleV k = .nilFunc := by unfold ruleV; rw [if_neg (by omega), if_neg (by omega), if_neg (by omega)]
theorem rule_some {k : Int} (h1 : 1 ≤ k) (h4 : k ≤ 4) : ∃ n, ruleV k = .func (.func n) #[] #[] := by
  have hk : k = 1 ∨ k = 2 ∨ k = 3 ∨ k = 4 := by omega
  rcases hk with rfl | rfl | rfl | rfl <;> exact ⟨_, rfl⟩
end Go.Proofs.Ytejenfcfngjaaaa
