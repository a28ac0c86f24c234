/- What messages do: just, keys, says, given; the calls through the interface. -/
import Derived.Test.YtkjjgbaoicjbaabMsgs
namespace Go.Proofs.Ytkjjgbaoicjbaab
open Go.RowKit

theorem zeroBox (w : World) : Box (w.alloc (.cells #[.slice none 0 0, .slice none 0 0, .bool false] 25)) w.heap.size (.slice none 0 0) (.slice none 0 0) (.bool false) := Box.new _ _ _ _

set_option maxHeartbeats 800000 in
set_option maxRecDepth 100000 in
theorem just_any {w : World} {v : Value} {k : Key} (h : KeyAt w v k) (hk : k.length + 1 ≤ 140737488355328) :
    Calls Try.prog 90 #[v] w fun e w' => ∃ v', e = .returned (.agg #[v, v', .bool false]) ∧ NewKey w.heap.size w' v' (k ++ [0]) ∧ Below w.heap.size w w' := by
  obtain ⟨a, c, e⟩ := h.in.form
  subst e
  obtain ⟨W, hW⟩ : ∃ W, W = w.alloc (.cells #[.slice none 0 0, .slice none 0 0, .bool false] 25) := ⟨_, rfl⟩
  have HBW : Hid (Below w.heap.size w W) := by rw [hW]; exact below_new _ _
  have HX : Hid (Box W w.heap.size (.slice none 0 0) (.slice none 0 0) (.bool false)) := by rw [hW]; exact zeroBox w
  have HN := next_any (h.here HBW.out) hk
  clear h
  go_enter Try.func90, Try.ntmps90
  go_wp2_with fail
  rw [← hW]
  clear hW
  refine HN.mono ?_
  rintro e w1 ⟨v', rfl, hn, hb1⟩
  obtain ⟨a', c', e'⟩ := hn.at.in.form
  subst e'
  have HY : Hid (Box w1 w.heap.size (.slice none 0 0) (.slice none 0 0) (.bool false)) := HX.out.here hb1
  have HNK : Hid (NewKey w.heap.size w1 (.slice a' (k ++ [0]).length c') (k ++ [0])) := hn.mono HBW.out.size
  have HB1 : Hid (Below w.heap.size w w1) := HBW.out.trans (hb1.mono HBW.out.size)
  obtain ⟨f0, f1, f2⟩ := HY.out.open
  obtain ⟨k0, k1, k2⟩ := HY.out.cells
  have hl := HY.out.lt
  clear hn hb1 HN
  generalize (k ++ [0]).length = n' at *
  go_wp2
  refine bodyPost_ret (ret_box rfl rfl (put3_box HY.out)) rfl ⟨_, rfl, HNK.out.put3 HY.out _ _ _, put3_below HB1.out (Nat.le_refl _) _ _ _⟩

/-- What stays: all below a border, and whatever block is none of a type. -/
structure Keep (T : TypeId) (B : Nat) (w w' : World) : Prop where
  low : Below B w w'
  typ : ∀ (k : Nat) (cur : Array Value) (t : TypeId) z, t ≠ T → w.heap[k]? = some (Obj.cells cur t z) → w'.heap[k]? = some (Obj.cells cur t z)
theorem Keep.refl (T : TypeId) (B : Nat) (w : World) : Keep T B w w := ⟨Below.refl _ _, fun _ _ _ _ _ h => h⟩
theorem Keep.trans {T : TypeId} {B : Nat} {a b c : World} (h : Keep T B a b) (k : Keep T B b c) : Keep T B a c := ⟨h.low.trans k.low, fun i cur t z ht hi => k.typ i cur t z ht (h.typ i cur t z ht hi)⟩
theorem Keep.of {T : TypeId} {B : Nat} {w w' : World} (h : Below w.heap.size w w') (hB : B ≤ w.heap.size) : Keep T B w w' := ⟨h.mono hB, fun k cur t z _ hk => by rw [h.block k (Array.getElem?_eq_some_iff.1 hk).1]; exact hk⟩
theorem NewKey.keep {base T B : Nat} {w w' : World} {v : Value} {ks : Key} (h : NewKey base w v ks) (hk : Keep T B w w') (hT : 5 ≠ T) : NewKey base w' v ks :=
  ⟨own_same h.1 fun b hb _ => by
    obtain ⟨_, _, cur, hc⟩ := own_type h.1 b hb
    rw [hc]; exact hk.typ _ _ _ _ hT hc, h.2⟩
/-- A key that came in, or one of new memory. -/
structure KeyK (base : Nat) (w : World) (v : Value) (k : Key) : Prop where
  is : KeyIn base w v k ∨ NewKey base w v k
theorem KeyK.at {base : Nat} {w : World} {v : Value} {k : Key} (h : KeyK base w v k) (hB : base ≤ w.heap.size) : KeyAt w v k := by
  rcases h.is with h | h
  · exact h.at hB
  · exact h.at
theorem KeyK.here {base : Nat} {w w' : World} {v : Value} {k : Key} (h : KeyK base w v k) (hB : base ≤ w.heap.size) (hb : Below w.heap.size w w') : KeyK base w' v k := by
  rcases h.is with h | h
  · exact ⟨.inl (h.below (hb.mono hB))⟩
  · exact ⟨.inr (h.here hb)⟩
theorem KeyK.keep {base T : Nat} {w w' : World} {v : Value} {k : Key} (h : KeyK base w v k) (hk : Keep T base w w') (hT : 5 ≠ T) : KeyK base w' v k := by
  rcases h.is with h | h
  · exact ⟨.inl (h.below hk.low)⟩
  · exact ⟨.inr (h.keep hk hT)⟩
/-- A range that is told: its ends are keys. -/
structure KeysPost (base : Nat) (w : World) (r : Rg) (e : Ending) (w' : World) : Prop where
  is : ∃ v1 v2, e = .returned (.agg #[v1, v2, .bool false]) ∧ KeyK base w' v1 r.lo ∧ KeyK base w' v2 r.hi ∧ Below w.heap.size w w'

set_option maxHeartbeats 800000 in
set_option maxRecDepth 100000 in
theorem putKeys_any {base : Nat} {w : World} {v u : Value} {k m : Key} (hB : base ≤ w.heap.size) (h : KeyIn base w v k) (hu : KeyIn base w u m) (hk : k.length + 1 ≤ 140737488355328) :
    Calls Try.prog 88 #[.agg #[v, u]] w fun e w' => KeysPost base w ⟨k, k ++ [0], false⟩ e w' := by
  obtain ⟨a, c, e⟩ := h.form
  subst e
  obtain ⟨a2, c2, e⟩ := hu.form
  subst e
  obtain ⟨W, hW⟩ : ∃ W, W = (w.alloc (.cells #[.slice a k.length c, .slice a2 m.length c2] 76)).alloc (.cells #[.slice none 0 0, .slice none 0 0, .bool false] 25) := ⟨_, rfl⟩
  have HBW : Hid (Below w.heap.size w W) := by rw [hW]; exact (below_new _ _).alloc (by simp) _
  have HX : Hid (Box W (w.heap.size + 1) (.slice none 0 0) (.slice none 0 0) (.bool false)) := by
    rw [hW]
    have := zeroBox (w.alloc (.cells #[.slice a k.length c, .slice a2 m.length c2] 76))
    simpa [Hid] using this
  have HK : Hid (KeyIn base w (.slice a k.length c) k) := h
  have HJ := just_any ((h.at hB).here HBW.out) hk
  clear h hu
  go_enter Try.func88, Try.ntmps88
  go_wp2_with fail
  rw [← hW]
  clear hW
  refine HJ.mono ?_
  rintro e w1 ⟨v', rfl, hn, hb1⟩
  obtain ⟨a', c', e'⟩ := hn.at.in.form
  subst e'
  have HY : Hid (Box w1 (w.heap.size + 1) (.slice none 0 0) (.slice none 0 0) (.bool false)) := HX.out.here hb1
  have HB1 : Hid (Below w.heap.size w w1) := HBW.out.trans (hb1.mono HBW.out.size)
  have HNK : Hid (NewKey W.heap.size w1 (.slice a' (k ++ [0]).length c') (k ++ [0])) := hn
  obtain ⟨f0, f1, f2⟩ := HY.out.open
  obtain ⟨k0, k1, k2⟩ := HY.out.cells
  have hl := HY.out.lt
  clear hn hb1 HJ
  have hbp := put3_below HB1.out (Nat.le_succ w.heap.size) (.slice a k.length c) (.slice a' (k ++ [0]).length c') (.bool false)
  have HBP : Hid _ := hbp
  clear hbp
  generalize hn' : (k ++ [0]).length = n' at *
  go_wp2
  refine bodyPost_ret (ret_box rfl rfl (put3_box HY.out)) rfl ⟨_, _, rfl, ⟨.inl (HK.out.below (HBP.out.mono hB))⟩, ⟨.inr ((HNK.out.mono (Nat.le_trans hB HBW.out.size)).put3 HY.out _ _ _)⟩, HBP.out⟩
set_option maxHeartbeats 800000 in
set_option maxRecDepth 100000 in
theorem delKeys_any {base : Nat} {w : World} {v : Value} {k : Key} (hB : base ≤ w.heap.size) (h : KeyIn base w v k) (hk : k.length + 1 ≤ 140737488355328) :
    Calls Try.prog 92 #[.agg #[v]] w fun e w' => KeysPost base w ⟨k, k ++ [0], false⟩ e w' := by
  obtain ⟨a, c, e⟩ := h.form
  subst e
  obtain ⟨W, hW⟩ : ∃ W, W = (w.alloc (.cells #[.slice a k.length c] 78)).alloc (.cells #[.slice none 0 0, .slice none 0 0, .bool false] 25) := ⟨_, rfl⟩
  have HBW : Hid (Below w.heap.size w W) := by rw [hW]; exact (below_new _ _).alloc (by simp) _
  have HX : Hid (Box W (w.heap.size + 1) (.slice none 0 0) (.slice none 0 0) (.bool false)) := by
    rw [hW]
    have := zeroBox (w.alloc (.cells #[.slice a k.length c] 78))
    simpa [Hid] using this
  have HK : Hid (KeyIn base w (.slice a k.length c) k) := h
  have HJ := just_any ((h.at hB).here HBW.out) hk
  clear h
  go_enter Try.func92, Try.ntmps92
  go_wp2_with fail
  rw [← hW]
  clear hW
  refine HJ.mono ?_
  rintro e w1 ⟨v', rfl, hn, hb1⟩
  obtain ⟨a', c', e'⟩ := hn.at.in.form
  subst e'
  have HY : Hid (Box w1 (w.heap.size + 1) (.slice none 0 0) (.slice none 0 0) (.bool false)) := HX.out.here hb1
  have HB1 : Hid (Below w.heap.size w w1) := HBW.out.trans (hb1.mono HBW.out.size)
  have HNK : Hid (NewKey W.heap.size w1 (.slice a' (k ++ [0]).length c') (k ++ [0])) := hn
  obtain ⟨f0, f1, f2⟩ := HY.out.open
  obtain ⟨k0, k1, k2⟩ := HY.out.cells
  have hl := HY.out.lt
  clear hn hb1 HJ
  have hbp := put3_below HB1.out (Nat.le_succ w.heap.size) (.slice a k.length c) (.slice a' (k ++ [0]).length c') (.bool false)
  have HBP : Hid _ := hbp
  clear hbp
  generalize hn' : (k ++ [0]).length = n' at *
  go_wp2
  refine bodyPost_ret (ret_box rfl rfl (put3_box HY.out)) rfl ⟨_, _, rfl, ⟨.inl (HK.out.below (HBP.out.mono hB))⟩, ⟨.inr ((HNK.out.mono (Nat.le_trans hB HBW.out.size)).put3 HY.out _ _ _)⟩, HBP.out⟩

set_option maxHeartbeats 800000 in
set_option maxRecDepth 100000 in
theorem cutKeys_any {base : Nat} {w : World} {v u : Value} {k m : Key} (hB : base ≤ w.heap.size) (h : KeyIn base w v k) (hu : KeyIn base w u m) :
    Calls Try.prog 34 #[.agg #[v, u]] w fun e w' => KeysPost base w ⟨k, m, false⟩ e w' := by
  obtain ⟨a, c, e⟩ := h.form
  subst e
  obtain ⟨a2, c2, e⟩ := hu.form
  subst e
  obtain ⟨W, hW⟩ : ∃ W, W = (w.alloc (.cells #[.slice a k.length c, .slice a2 m.length c2] 80)).alloc (.cells #[.slice a k.length c, .slice a2 m.length c2, .bool false] 25) := ⟨_, rfl⟩
  have HBW : Hid (Below w.heap.size w W) := by rw [hW]; exact (below_new _ _).alloc (by simp) _
  have HX : Hid (Box W (w.heap.size + 1) (.slice a k.length c) (.slice a2 m.length c2) (.bool false)) := by
    rw [hW]
    have := Box.new (w.alloc (.cells #[.slice a k.length c, .slice a2 m.length c2] 80)) (.slice a k.length c) (.slice a2 m.length c2) (.bool false)
    simpa [Hid] using this
  have HK : Hid (KeyIn base w (.slice a k.length c) k) := h
  have HU : Hid (KeyIn base w (.slice a2 m.length c2) m) := hu
  clear h hu
  go_enter Try.func34, Try.ntmps34
  go_wp2
  rw [← hW]
  clear hW
  exact bodyPost_ret (ret_box rfl rfl HX.out) rfl ⟨_, _, rfl, ⟨.inl (HK.out.below (HBW.out.mono hB))⟩, ⟨.inl (HU.out.below (HBW.out.mono hB))⟩, HBW.out⟩

set_option maxHeartbeats 800000 in
set_option maxRecDepth 100000 in
theorem idleKeys_any (base : Nat) (w : World) : Calls Try.prog 95 #[.agg #[]] w fun e w' => KeysPost base w Rg.zero e w' := by
  obtain ⟨W, hW⟩ : ∃ W, W = (w.alloc (.cells #[] 102)).alloc (.cells #[.slice none 0 0, .slice none 0 0, .bool false] 25) := ⟨_, rfl⟩
  have HBW : Hid (Below w.heap.size w W) := by rw [hW]; exact (below_new _ _).alloc (by simp) _
  have HX : Hid (Box W (w.heap.size + 1) (.slice none 0 0) (.slice none 0 0) (.bool false)) := by
    rw [hW]
    have := zeroBox (w.alloc (.cells #[] 102))
    simpa [Hid] using this
  go_enter Try.func95, Try.ntmps95
  go_wp2
  rw [← hW]
  clear hW
  exact bodyPost_ret (ret_box rfl rfl HX.out) rfl ⟨_, _, rfl, ⟨.inr (NewKey.nil _ _)⟩, ⟨.inr (NewKey.nil _ _)⟩, HBW.out⟩

set_option maxHeartbeats 800000 in
set_option maxRecDepth 100000 in
theorem putSays_any {w : World} {v u t : Value} {k m x : Key} (h : KeyAt w v k) (hu : KeyAt w u m) (ht : KeyAt w t x) :
    Calls Try.prog 89 #[.agg #[v, u], t] w fun e w' => e = .returned (.bool (decide (k = x))) ∧ Below w.heap.size w w' := by
  obtain ⟨a, c, e⟩ := h.in.form
  subst e
  obtain ⟨a2, c2, e⟩ := hu.in.form
  subst e
  obtain ⟨W, hW⟩ : ∃ W, W = w.alloc (.cells #[.slice a k.length c, .slice a2 m.length c2] 76) := ⟨_, rfl⟩
  have HBW : Hid (Below w.heap.size w W) := by rw [hW]; exact below_new _ _
  have HC := compare_key (h.here HBW.out) (ht.here HBW.out)
  have HD : Hid ((cmpK k x == 0) = decide (k = x)) := by rw [Hid, Bool.eq_iff_iff]; simp [cmpK_eq]
  clear h hu ht
  go_enter Try.func89, Try.ntmps89
  go_wp2_with fail
  rw [← hW]
  clear hW
  refine HC.mono ?_
  rintro e w1 ⟨rfl, q, rfl⟩
  go_wp2
  go_ret
  exact ⟨by rw [HD.out]; rfl, below_draws HBW.out q⟩

set_option maxHeartbeats 800000 in
set_option maxRecDepth 100000 in
theorem delSays_any {w : World} {v t : Value} {k x : Key} (h : KeyAt w v k) (ht : KeyAt w t x) :
    Calls Try.prog 93 #[.agg #[v], t] w fun e w' => e = .returned (.bool (decide (k = x))) ∧ Below w.heap.size w w' := by
  obtain ⟨a, c, e⟩ := h.in.form
  subst e
  obtain ⟨W, hW⟩ : ∃ W, W = w.alloc (.cells #[.slice a k.length c] 78) := ⟨_, rfl⟩
  have HBW : Hid (Below w.heap.size w W) := by rw [hW]; exact below_new _ _
  have HC := compare_key (h.here HBW.out) (ht.here HBW.out)
  have HD : Hid ((cmpK k x == 0) = decide (k = x)) := by rw [Hid, Bool.eq_iff_iff]; simp [cmpK_eq]
  clear h ht
  go_enter Try.func93, Try.ntmps93
  go_wp2_with fail
  rw [← hW]
  clear hW
  refine HC.mono ?_
  rintro e w1 ⟨rfl, q, rfl⟩
  go_wp2
  go_ret
  exact ⟨by rw [HD.out]; rfl, below_draws HBW.out q⟩

set_option maxHeartbeats 800000 in
set_option maxRecDepth 100000 in
theorem cutSays_any {w : World} {v u t : Value} {k m x : Key} (h : KeyAt w v k) (hu : KeyAt w u m) (ht : KeyAt w t x) :
    Calls Try.prog 94 #[.agg #[v, u], t] w fun e w' => e = .returned (.bool (Rg.has ⟨k, m, false⟩ x)) ∧ Below w.heap.size w w' := by
  obtain ⟨a, c, e⟩ := h.in.form
  subst e
  obtain ⟨a2, c2, e⟩ := hu.in.form
  subst e
  obtain ⟨W, hW⟩ : ∃ W, W = w.alloc (.cells #[.slice a k.length c, .slice a2 m.length c2] 80) := ⟨_, rfl⟩
  have HBW : Hid (Below w.heap.size w W) := by rw [hW]; exact below_new _ _
  have HK := cutKeys_any (Nat.le_refl _) (h.here HBW.out).in (hu.here HBW.out).in
  have HT : Hid (KeyAt W t x) := ht.here HBW.out
  obtain ⟨a3, c3, e⟩ := ht.in.form
  subst e
  clear h hu ht
  go_enter Try.func94, Try.ntmps94
  go_wp2_with fail
  rw [← hW]
  clear hW
  refine HK.mono ?_
  rintro e w1 ⟨y1, y2, rfl, h1, h2, hb1⟩
  have HH := has_any (r := ⟨k, m, false⟩) ⟨y1, y2, rfl, h1.at hb1.size, h2.at hb1.size⟩ (HT.out.here hb1)
  have HB1 : Hid (Below w.heap.size w w1) := HBW.out.trans (hb1.mono HBW.out.size)
  clear h1 h2 hb1 HK
  go_wp2_with fail
  refine HH.mono ?_
  rintro e w2 ⟨rfl, hb2⟩
  have HB2 : Hid (Below w.heap.size w w2) := HB1.out.trans (hb2.mono HB1.out.size)
  clear hb2 HH
  go_wp2
  go_ret
  exact ⟨rfl, HB2.out⟩

set_option maxHeartbeats 800000 in
set_option maxRecDepth 100000 in
theorem idleSays_any (w : World) (t : Value) : Calls Try.prog 96 #[.agg #[], t] w fun e w' => e = .returned (.bool false) ∧ Below w.heap.size w w' := by
  have HBW : Hid (Below w.heap.size w (w.alloc (.cells #[] 102))) := below_new _ _
  go_enter Try.func96, Try.ntmps96
  go_wp2
  go_ret
  exact ⟨rfl, HBW.out⟩
end Go.Proofs.Ytkjjgbaoicjbaab
