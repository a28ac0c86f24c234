import Derived.Test.YtpmcpomomagkhaaMsgs
import Derived.Shelf.Abstract
/- What messages do: just, keys, says, given; the calls through the interface. -/
namespace Go.Proofs.Ytpmcpomomagkhaa
open Go.RowKit

theorem zeroBox (w : World) : Box (w.alloc (.cells #[.slice none 0 0, .slice none 0 0, .bool false] 102)) w.heap.size (.slice none 0 0) (.slice none 0 0) (.bool false) := Box.new _ _ _ _

/-- What stays: all below a border, and whatever block is none of a type. -/
structure Keep (T : TypeId) (B : Nat) (w w' : World) : Prop where
  low : Below B w w'
  typ : ∀ (k : Nat) (cur : Array Value) (t : TypeId) z, t ≠ T → w.heap[k]? = some (Obj.cells cur t z) → w'.heap[k]? = some (Obj.cells cur t z)
theorem Keep.refl (T : TypeId) (B : Nat) (w : World) : Keep T B w w := ⟨Below.refl _ _, fun _ _ _ _ _ h => h⟩
theorem Keep.trans {T : TypeId} {B : Nat} {a b c : World} (h : Keep T B a b) (k : Keep T B b c) : Keep T B a c := ⟨h.low.trans k.low, fun i cur t z ht hi => k.typ i cur t z ht (h.typ i cur t z ht hi)⟩
theorem Keep.of {T : TypeId} {B : Nat} {w w' : World} (h : Below w.heap.size w w') (hB : B ≤ w.heap.size) : Keep T B w w' := ⟨h.mono hB, fun k cur t z _ hk => by rw [h.block k (Array.getElem?_eq_some_iff.1 hk).1]; exact hk⟩
theorem NewKey.keep {base T B : Nat} {w w' : World} {v : Value} {ks : Key} (h : NewKey base w v ks) (hk : Keep T B w w') (hT : 5 ≠ T) : NewKey base w' v ks :=
  ⟨own_same h.1 fun b hb _ => by
    obtain ⟨_, _, cur, hc⟩ := own_type h.1 b hb
    rw [hc]; exact hk.typ _ _ _ _ hT hc, h.2⟩
/-- A key that came in, or one of new memory. -/
structure KeyK (base : Nat) (w : World) (v : Value) (k : Key) : Prop where
  is : KeyIn base w v k ∨ NewKey base w v k
theorem KeyK.at {base : Nat} {w : World} {v : Value} {k : Key} (h : KeyK base w v k) (hB : base ≤ w.heap.size) : KeyAt w v k := by
  rcases h.is with h | h
  · exact h.at hB
  · exact h.at
theorem KeyK.here {base : Nat} {w w' : World} {v : Value} {k : Key} (h : KeyK base w v k) (hB : base ≤ w.heap.size) (hb : Below w.heap.size w w') : KeyK base w' v k := by
  rcases h.is with h | h
  · exact ⟨.inl (h.below (hb.mono hB))⟩
  · exact ⟨.inr (h.here hb)⟩
theorem KeyK.keep {base T : Nat} {w w' : World} {v : Value} {k : Key} (h : KeyK base w v k) (hk : Keep T base w w') (hT : 5 ≠ T) : KeyK base w' v k := by
  rcases h.is with h | h
  · exact ⟨.inl (h.below hk.low)⟩
  · exact ⟨.inr (h.keep hk hT)⟩
/-- A range that is told: its ends are keys. -/
structure KeysPost (base : Nat) (w : World) (r : Rg) (e : Ending) (w' : World) : Prop where
  is : ∃ v1 v2, e = .returned (.agg #[v1, v2, .bool false]) ∧ KeyK base w' v1 r.lo ∧ KeyK base w' v2 r.hi ∧ Below w.heap.size w w'

set_option maxHeartbeats 800000 in
set_option maxRecDepth 100000 in
theorem cutKeys_any {base : Nat} {w : World} {v u : Value} {k m : Key} (hB : base ≤ w.heap.size) (h : KeyIn base w v k) (hu : KeyIn base w u m) :
    Calls Try.prog 67 #[.agg #[v, u]] w fun e w' => KeysPost base w ⟨k, m, false⟩ e w' := by
  obtain ⟨a, c, e⟩ := h.form
  subst e
  obtain ⟨a2, c2, e⟩ := hu.form
  subst e
  obtain ⟨W, hW⟩ : ∃ W, W = (w.alloc (.cells #[.slice a k.length c, .slice a2 m.length c2] 95)).alloc (.cells #[.slice a k.length c, .slice a2 m.length c2, .bool false] 102) := ⟨_, rfl⟩
  have HBW : Hid (Below w.heap.size w W) := by rw [hW]; exact (below_new _ _).alloc (by simp) _
  have HX : Hid (Box W (w.heap.size + 1) (.slice a k.length c) (.slice a2 m.length c2) (.bool false)) := by
    rw [hW]
    have := Box.new (w.alloc (.cells #[.slice a k.length c, .slice a2 m.length c2] 95)) (.slice a k.length c) (.slice a2 m.length c2) (.bool false)
    simpa [Hid] using this
  have HK : Hid (KeyIn base w (.slice a k.length c) k) := h
  have HU : Hid (KeyIn base w (.slice a2 m.length c2) m) := hu
  clear h hu
  go_enter Try.func67, Try.ntmps67
  go_wp2
  rw [← hW]
  clear hW
  exact bodyPost_ret (ret_box rfl rfl HX.out) rfl ⟨_, _, rfl, ⟨.inl (HK.out.below (HBW.out.mono hB))⟩, ⟨.inl (HU.out.below (HBW.out.mono hB))⟩, HBW.out⟩

end Go.Proofs.Ytpmcpomomagkhaa

/- Type switches on what messages do; methods called through the interface. -/
namespace Go.Proofs.Ytpmcpomomagkhaa
open Go.RowKit Go.Shelf

abbrev z2 : Value := .agg #[.slice none 0 0, .slice none 0 0]
abbrev z1 : Value := .agg #[.slice none 0 0]
theorem as_pp (v : Value) (w : World) : (Instr.typeAssert (.iface 93 v) 90 93 true).run Try.prog w = .ok (.tuple #[v, .bool true]) w := by kernel_rfl
theorem as_pd (v : Value) (w : World) : (Instr.typeAssert (.iface 93 v) 90 116 true).run Try.prog w = .ok (.tuple #[z1, .bool false]) w := by kernel_rfl
theorem as_pc (v : Value) (w : World) : (Instr.typeAssert (.iface 93 v) 90 95 true).run Try.prog w = .ok (.tuple #[z2, .bool false]) w := by kernel_rfl
theorem as_dp (v : Value) (w : World) : (Instr.typeAssert (.iface 116 v) 90 93 true).run Try.prog w = .ok (.tuple #[z2, .bool false]) w := by kernel_rfl
theorem as_dd (v : Value) (w : World) : (Instr.typeAssert (.iface 116 v) 90 116 true).run Try.prog w = .ok (.tuple #[v, .bool true]) w := by kernel_rfl
theorem as_dc (v : Value) (w : World) : (Instr.typeAssert (.iface 116 v) 90 95 true).run Try.prog w = .ok (.tuple #[z2, .bool false]) w := by kernel_rfl
theorem as_cp (v : Value) (w : World) : (Instr.typeAssert (.iface 95 v) 90 93 true).run Try.prog w = .ok (.tuple #[z2, .bool false]) w := by kernel_rfl
theorem as_cd (v : Value) (w : World) : (Instr.typeAssert (.iface 95 v) 90 116 true).run Try.prog w = .ok (.tuple #[z1, .bool false]) w := by kernel_rfl
theorem as_cc (v : Value) (w : World) : (Instr.typeAssert (.iface 95 v) 90 95 true).run Try.prog w = .ok (.tuple #[v, .bool true]) w := by kernel_rfl
theorem as_ip (v : Value) (w : World) : (Instr.typeAssert (.iface 120 v) 90 93 true).run Try.prog w = .ok (.tuple #[z2, .bool false]) w := by kernel_rfl
theorem as_id (v : Value) (w : World) : (Instr.typeAssert (.iface 120 v) 90 116 true).run Try.prog w = .ok (.tuple #[z1, .bool false]) w := by kernel_rfl
theorem as_ic (v : Value) (w : World) : (Instr.typeAssert (.iface 120 v) 90 95 true).run Try.prog w = .ok (.tuple #[z2, .bool false]) w := by kernel_rfl
end Go.Proofs.Ytpmcpomomagkhaa
