/- Appends onto bytes of new memory; number, anew. -/
import Derived.Test.YtgifnaahahfhbaaBytes
namespace Go.Proofs.Ytgifnaahahfhbaa
open Go.RowKit

/-- What stays: all below a border, and whatever block is none of bytes. -/
structure Keeps (B : Nat) (w w' : World) : Prop where
  low : Below B w w'
  typ : ∀ (k : Nat) (cur : Array Value) (t : TypeId) z, t ≠ 5 → w.heap[k]? = some (Obj.cells cur t z) → w'.heap[k]? = some (Obj.cells cur t z)
theorem Keeps.refl (B : Nat) (w : World) : Keeps B w w := ⟨Below.refl _ _, fun _ _ _ _ _ h => h⟩
theorem Keeps.trans {B : Nat} {a b c : World} (h : Keeps B a b) (k : Keeps B b c) : Keeps B a c := ⟨h.low.trans k.low, fun i cur t z ht hi => k.typ i cur t z ht (h.typ i cur t z ht hi)⟩
theorem Keeps.of {B : Nat} {w w' : World} (h : Below w.heap.size w w') (hB : B ≤ w.heap.size) : Keeps B w w' := ⟨h.mono hB, fun k cur t z _ hk => by rw [h.block k (Array.getElem?_eq_some_iff.1 hk).1]; exact hk⟩
theorem Keeps.draws {B : Nat} {a w : World} (h : Keeps B a w) (n : Nat) : Keeps B a (w.drewN n) := ⟨below_draws h.low n, h.typ⟩
theorem Keeps.mono {B B' : Nat} {a w : World} (h : Keeps B a w) (hB : B' ≤ B) : Keeps B' a w := ⟨h.low.mono hB, h.typ⟩
theorem Keeps.grown {base : Nat} {w w' : World} {v : Value} {ks : Key} (hv : NewKey base w v ks) (hg : w.grownBy w' v.ownBlock) (hB : base ≤ w.heap.size) : Keeps base w w' := by
  refine ⟨(Below.refl _ _).grown hg hB (fun k e => (own_type hv.1 k e).2.1), fun k cur t z ht hk => ?_⟩
  obtain ⟨_, _, _, _, hbl⟩ := hg
  rw [hbl k (Array.getElem?_eq_some_iff.1 hk).1]
  · exact hk
  · intro e
    obtain ⟨_, _, cur', h'⟩ := own_type hv.1 k e.symm
    rw [hk] at h'
    simp only [Option.some.injEq, Obj.cells.injEq] at h'
    exact ht h'.2.1

/-- 'append' of bytes onto bytes of new memory. -/
theorem wpList_append_key {w : World} {ops : Array Oper} {rest : List Oper} {o : Oper} {a : Act} {Q : Exit → Act → World → Prop} (hgd : o.guard = none) (s x : Operand)
    (ho : o.op = .call { callee := .builtin .append, args := #[s, x], argTypes := #[39, 39] }) (base : Nat)
    (v u : Value) (ks bs : Key) (hs : a.eval s = v) (hv : NewKey base w v ks) (hx : a.eval x = u) (hu : KeyAt w u bs)
    (hlen : ks.length + bs.length ≤ 140737488355328) (hbase : base ≤ w.heap.size)
    (h : ∀ v' w', NewKey base w' v' (ks ++ bs) → Keeps base w w' → wpList Try.prog ops Q rest (a.put o.dst v') w') : wpList Try.prog ops Q (o :: rest) a w := by
  obtain ⟨i0, hi, hz0, hz1, hz2⟩ := info5'
  obtain ⟨⟨ao, c, rfl, hb, hc, hn⟩, hl⟩ := hu
  cases ao with
  | none =>
    have h0 : bs = [] := by
      cases bs with
      | nil => rfl
      | cons b r => obtain ⟨_, _, e, _⟩ := hb 0 b rfl; cases e
    subst h0
    obtain rfl := hn rfl
    refine wpList_append_own_none hgd s x 39 ho base 5 i0 1 Try.underlying39 hi _ _ _ hs hv.1 hx ?_
    exact h v w (by rw [List.append_nil]; exact hv) (Keeps.refl _ _)
  | some ad =>
    refine wpList_append_own w hgd s x 39 ho base 5 i0 (.int .u8 0) 1 1 Try.underlying39 hi hz0 hz1 hz2 rfl (by decide) _ _ _ hs hv.1 ad bs.length c (bs.map encB) hx (by simp) ?_ ?_ (by unfold maxLen; omega) (by omega) hbase ?_
    · intro j u hj
      rw [List.getElem?_map] at hj
      cases e : bs[j]? with
      | none => rw [e] at hj; cases hj
      | some b =>
        rw [e] at hj
        cases hj
        obtain ⟨g', off, e1, _, hc⟩ := hb j b e
        cases e1
        rw [add_at]
        exact hc
    · intro u hu
      obtain ⟨b, _, rfl⟩ := List.mem_map.1 hu
      rfl
    · intro v' w' hown hgr _
      refine h v' w' ⟨?_, by rw [List.length_append]; exact hlen⟩ (Keeps.grown hv hgr hbase)
      rw [List.length_append, List.map_append]
      exact hown

theorem key_one' {base : Nat} {w : World} {v : Value} {k : Key} (h : NewKey base w v k) : v.oneCell' = true := by
  obtain ⟨⟨a, c, rfl, _⟩, _⟩ := h.at; rfl
theorem lit2 {w : World} {x y : Int} {p q : UInt8} (hx : x = (p.toNat : Int)) (hy : y = (q.toNat : Int)) : KeyAt (w.alloc (.cells #[.int .u8 x, .int .u8 y] 5)) (.slice (some ⟨w.heap.size, 0, none⟩) 2 2) [p, q] := by
  subst hx hy
  refine ⟨⟨_, 2, rfl, fun j c hj => ⟨w.heap.size, 0, rfl, by simp, ?_⟩, Nat.le_refl _, fun h => by cases h⟩, by simp⟩
  rw [row_cell (heap_alloc_last _ _)]
  match j, hj with
  | 0, hj => simp at hj; subst hj; rfl
  | 1, hj => simp at hj; subst hj; rfl
  | j + 2, hj => simp at hj

set_option maxHeartbeats 800000 in
set_option maxRecDepth 100000 in
theorem number_any {base : Nat} {w : World} {v : Value} {ks : Key} {n : Nat} (h : NewKey base w v ks) (hs : ks.length + 2 ≤ 140737488355328) (hn : n < 65536) (hb : base ≤ w.heap.size) :
    Calls Try.prog 60 #[v, .int .i64 n] w fun r w' => ∃ v', r = .returned v' ∧ NewKey base w' v' (ks ++ two n) ∧ Keeps base w w' := by
  have HV : Hid (NewKey base w v ks) := h
  have HL : Hid (KeyAt (w.alloc (.cells #[.int .u8 ((n : Int) / 256), .int .u8 ((n : Int) % 256)] 5)) (.slice (some ⟨w.heap.size, 0, none⟩) 2 2) (two n)) :=
    lit2 (by rw [UInt8.toNat_ofNat']; omega) (by rw [UInt8.toNat_ofNat']; omega)
  have HB : Hid (Below w.heap.size w (w.alloc (.cells #[.int .u8 ((n : Int) / 256), .int .u8 ((n : Int) % 256)] 5))) := below_new _ _
  have hv1 : v.oneCell' = true := key_one' h
  clear h
  go_enter Try.func60, Try.ntmps60
  go_wp2_with (at_builtin; refine wpList_append_key rfl _ _ rfl base _ _ ks (two n) rfl (HV.out.here HB.out) rfl HL.out hs (by simp; omega) ?_
               intro v' w' hk hkp
               have HK : Hid _ := hk
               have HKP : Hid _ := hkp
               clear hk hkp)
  go_ret
  exact ⟨_, rfl, HK.out, (Keeps.of HB.out hb).trans HKP.out⟩
end Go.Proofs.Ytgifnaahahfhbaa
