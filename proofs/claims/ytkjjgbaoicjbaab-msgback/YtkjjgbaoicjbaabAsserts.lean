/- Type switches on what messages do; methods called through the interface. -/
import Derived.Test.YtkjjgbaoicjbaabDeeds
import Derived.Shelf.Abstract
namespace Go.Proofs.Ytkjjgbaoicjbaab
open Go.RowKit Go.Shelf

abbrev z2 : Value := .agg #[.slice none 0 0, .slice none 0 0]
abbrev z1 : Value := .agg #[.slice none 0 0]
theorem as_pp (v : Value) (w : World) : (Instr.typeAssert (.iface 76 v) 70 76 true).run Try.prog w = .ok (.tuple #[v, .bool true]) w := by kernel_rfl
theorem as_pd (v : Value) (w : World) : (Instr.typeAssert (.iface 76 v) 70 78 true).run Try.prog w = .ok (.tuple #[z1, .bool false]) w := by kernel_rfl
theorem as_pc (v : Value) (w : World) : (Instr.typeAssert (.iface 76 v) 70 80 true).run Try.prog w = .ok (.tuple #[z2, .bool false]) w := by kernel_rfl
theorem as_dp (v : Value) (w : World) : (Instr.typeAssert (.iface 78 v) 70 76 true).run Try.prog w = .ok (.tuple #[z2, .bool false]) w := by kernel_rfl
theorem as_dd (v : Value) (w : World) : (Instr.typeAssert (.iface 78 v) 70 78 true).run Try.prog w = .ok (.tuple #[v, .bool true]) w := by kernel_rfl
theorem as_dc (v : Value) (w : World) : (Instr.typeAssert (.iface 78 v) 70 80 true).run Try.prog w = .ok (.tuple #[z2, .bool false]) w := by kernel_rfl
theorem as_cp (v : Value) (w : World) : (Instr.typeAssert (.iface 80 v) 70 76 true).run Try.prog w = .ok (.tuple #[z2, .bool false]) w := by kernel_rfl
theorem as_cd (v : Value) (w : World) : (Instr.typeAssert (.iface 80 v) 70 78 true).run Try.prog w = .ok (.tuple #[z1, .bool false]) w := by kernel_rfl
theorem as_cc (v : Value) (w : World) : (Instr.typeAssert (.iface 80 v) 70 80 true).run Try.prog w = .ok (.tuple #[v, .bool true]) w := by kernel_rfl
theorem as_ip (v : Value) (w : World) : (Instr.typeAssert (.iface 102 v) 70 76 true).run Try.prog w = .ok (.tuple #[z2, .bool false]) w := by kernel_rfl
theorem as_id (v : Value) (w : World) : (Instr.typeAssert (.iface 102 v) 70 78 true).run Try.prog w = .ok (.tuple #[z1, .bool false]) w := by kernel_rfl
theorem as_ic (v : Value) (w : World) : (Instr.typeAssert (.iface 102 v) 70 80 true).run Try.prog w = .ok (.tuple #[z2, .bool false]) w := by kernel_rfl
theorem says_p (v : Value) (w : World) : (method 248 76 v "banyan/msg.says").run Try.prog w = .ok (89, v) w := by kernel_rfl
theorem says_d (v : Value) (w : World) : (method 248 78 v "banyan/msg.says").run Try.prog w = .ok (93, v) w := by kernel_rfl
theorem says_c (v : Value) (w : World) : (method 248 80 v "banyan/msg.says").run Try.prog w = .ok (94, v) w := by kernel_rfl
theorem says_i (v : Value) (w : World) : (method 248 102 v "banyan/msg.says").run Try.prog w = .ok (96, v) w := by kernel_rfl
theorem keys_p (v : Value) (w : World) : (method 248 76 v "banyan/msg.keys").run Try.prog w = .ok (88, v) w := by kernel_rfl
theorem keys_d (v : Value) (w : World) : (method 248 78 v "banyan/msg.keys").run Try.prog w = .ok (92, v) w := by kernel_rfl
theorem keys_c (v : Value) (w : World) : (method 248 80 v "banyan/msg.keys").run Try.prog w = .ok (34, v) w := by kernel_rfl
theorem keys_i (v : Value) (w : World) : (method 248 102 v "banyan/msg.keys").run Try.prog w = .ok (95, v) w := by kernel_rfl

/-- A method that is called through the interface. -/
structure Invokes (x : Mt) (name : String) (T : TypeId) (y : Value) (F : Nat) : Prop where
  is : deedV x = .iface T y
  method : ∀ w, (method 248 T y name).run Try.prog w = .ok (F, y) w
  enters : ∀ args w, (callFunc F args).run Try.prog w = .ok (.enter F args) w
theorem says_deed {w : World} {x : Mt} (h : x.Ok w.heap.size w) : ∃ T y F, Invokes x "banyan/msg.says" T y F ∧ ∀ W t k, Below w.heap.size w W → KeyAt W t k → Calls Try.prog F #[y, t] W fun e w' => e = .returned (.bool (x.m.says k)) ∧ Below W.heap.size W w' := by
  by_cases h1 : x.m.kd = 1
  · refine ⟨_, _, _, ⟨by unfold deedV; rw [if_pos h1], says_p _, enters_of Try.func89 (by kernel_rfl) rfl⟩, fun W t k hb ht => ?_⟩
    rw [Ms.says_one _ _ (.inl h1)]
    exact putSays_any ((h.here hb).lo.at (Nat.le_refl _)) ((h.here hb).va.at (Nat.le_refl _)) ht
  · by_cases h2 : x.m.kd = 2
    · refine ⟨_, _, _, ⟨by unfold deedV; rw [if_neg h1, if_pos h2], says_d _, enters_of Try.func93 (by kernel_rfl) rfl⟩, fun W t k hb ht => ?_⟩
      rw [Ms.says_one _ _ (.inr h2)]
      exact delSays_any ((h.here hb).lo.at (Nat.le_refl _)) ht
    · by_cases h3 : x.m.kd = 3
      · refine ⟨_, _, _, ⟨by unfold deedV; rw [if_neg h1, if_neg h2, if_pos h3], says_c _, enters_of Try.func94 (by kernel_rfl) rfl⟩, fun W t k hb ht => ?_⟩
        have e : x.m.says k = Rg.has ⟨x.m.lo, x.m.hi, false⟩ k := by unfold Ms.says Ms.rg; rw [if_neg (by omega), if_pos h3]
        rw [e]
        exact cutSays_any ((h.here hb).lo.at (Nat.le_refl _)) ((h.here hb).hi.at (Nat.le_refl _)) ht
      · refine ⟨_, _, _, ⟨by unfold deedV; rw [if_neg h1, if_neg h2, if_neg h3], says_i _, enters_of Try.func96 (by kernel_rfl) rfl⟩, fun W t k hb ht => ?_⟩
        rw [Ms.says_none _ _ (by omega) h3]
        exact idleSays_any W t
theorem keys_deed {base : Nat} (x : Mt) (hk : x.m.lo.length + 1 ≤ 140737488355328) : ∃ T y F, Invokes x "banyan/msg.keys" T y F ∧ ∀ W, x.Ok base W → base ≤ W.heap.size → Calls Try.prog F #[y] W fun e w' => KeysPost base W x.m.rg e w' := by
  by_cases h1 : x.m.kd = 1
  · refine ⟨_, _, _, ⟨by unfold deedV; rw [if_pos h1], keys_p _, enters_of Try.func88 (by kernel_rfl) rfl⟩, fun W h hB => ?_⟩
    rw [show x.m.rg = ⟨x.m.lo, x.m.lo ++ [0], false⟩ by unfold Ms.rg; rw [if_pos (.inl h1)]]
    exact putKeys_any hB h.lo h.va hk
  · by_cases h2 : x.m.kd = 2
    · refine ⟨_, _, _, ⟨by unfold deedV; rw [if_neg h1, if_pos h2], keys_d _, enters_of Try.func92 (by kernel_rfl) rfl⟩, fun W h hB => ?_⟩
      rw [show x.m.rg = ⟨x.m.lo, x.m.lo ++ [0], false⟩ by unfold Ms.rg; rw [if_pos (.inr h2)]]
      exact delKeys_any hB h.lo hk
    · by_cases h3 : x.m.kd = 3
      · refine ⟨_, _, _, ⟨by unfold deedV; rw [if_neg h1, if_neg h2, if_pos h3], keys_c _, enters_of Try.func34 (by kernel_rfl) rfl⟩, fun W h hB => ?_⟩
        rw [show x.m.rg = ⟨x.m.lo, x.m.hi, false⟩ by unfold Ms.rg; rw [if_neg (by omega), if_pos h3]]
        exact cutKeys_any hB h.lo h.hi
      · refine ⟨_, _, _, ⟨by unfold deedV; rw [if_neg h1, if_neg h2, if_neg h3], keys_i _, enters_of Try.func95 (by kernel_rfl) rfl⟩, fun W h hB => ?_⟩
        rw [show x.m.rg = Rg.zero by unfold Ms.rg; rw [if_neg (by omega), if_neg h3]]
        exact idleKeys_any base W
end Go.Proofs.Ytkjjgbaoicjbaab
