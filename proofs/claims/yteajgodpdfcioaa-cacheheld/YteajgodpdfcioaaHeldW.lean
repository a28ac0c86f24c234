/- CacheHeld's walk. -/
import Derived.Test.YteajgodpdfcioaaFrame
import Derived.Test.YteajgodpdfcioaaShown
import Derived.Test.YteajgodpdfcioaaHeldP
import Derived.Test.YteajgodpdfcioaaArgs
namespace Go.Proofs.Yteajgodpdfcioaa
open Go.RowKit Go.Maps

def encUs (u : Us) : List Value := [.int .i64 u.n, .int .i64 u.x]
def flatUs (L : List Us) : List Value := L.flatMap encUs
theorem flatUs_cons (u : Us) (L : List Us) : flatUs (u :: L) = .int .i64 u.n :: .int .i64 u.x :: flatUs L := by simp [flatUs, encUs]
theorem flatUs_append (L M : List Us) : flatUs (L ++ M) = flatUs L ++ flatUs M := by simp [flatUs]
theorem flatUs_length (L : List Us) : (flatUs L).length = L.length * 2 := by
  induction L with
  | nil => rfl
  | cons r L ih => rw [flatUs_cons]; simp [ih]; omega
theorem flatUs_at {L : List Us} {k : Nat} {u : Us} (h : L[k]? = some u) : (flatUs L)[k * 2]? = some (.int .i64 u.n) ∧ (flatUs L)[k * 2 + 1]? = some (.int .i64 u.x) := by
  induction L generalizing k with
  | nil => simp at h
  | cons q L ih =>
    rw [flatUs_cons]
    rcases k with _ | k
    · simp at h; subst h; simp
    · have := ih (k := k) (by simpa using h)
      rw [show (k + 1) * 2 = k * 2 + 1 + 1 by omega]
      simpa using this
theorem flatUs_set {L : List Us} {k : Nat} {u : Us} (h : L[k]? = some u) (x : Int) : (flatUs L).set (k * 2 + 1) (.int .i64 x) = flatUs (L.set k ⟨u.n, x⟩) := by
  induction L generalizing k with
  | nil => simp at h
  | cons q L ih =>
    rcases k with _ | k
    · simp at h; subst h
      simp [flatUs_cons]
    · have := ih (k := k) (by simpa using h)
      rw [show (k + 1) * 2 + 1 = (k * 2 + 1) + 1 + 1 by omega]
      simp [flatUs_cons, this]
abbrev NewUs (base : Nat) (w : World) (v : Value) (L : List Us) : Prop := w.ownsRow base 44 2 v L.length (flatUs L)
theorem infoUs : ∃ i, Try.prog.info? 44 = some i ∧ i.zero = some (.agg #[.int .i64 0, .int .i64 0]) ∧ i.size = 2 ∧ i.bytes = 16 := by
  have h : (Try.prog.info? 44).map (fun i => (i.zero, i.size, i.bytes)) = some (some (.agg #[.int .i64 0, .int .i64 0]), 2, 16) := by kernel_rfl
  cases hi : Try.prog.info? 44 with
  | none => rw [hi] at h; simp at h
  | some i => rw [hi] at h; simp at h; exact ⟨i, rfl, h⟩
/-- A use put behind others. -/
theorem wpList_append_us {w : World} {ops : Array Oper} {rest : List Oper} {o : Oper} {a : Act} {Q : Exit → Act → World → Prop} (hgd : o.guard = none) (s x : Operand)
    (ho : o.op = .call { callee := .builtin .append, args := #[s, x], argTypes := #[36, 36] }) (base : Nat)
    (v : Value) (L : List Us) (r : Us) (hs : a.eval s = v) (hv : NewUs base w v L) (g : Nat) (hx : a.eval x = .slice (some ⟨g, 0, none⟩) 1 1)
    (h0 : w.heap[g]? = some (.cells #[.int .i64 r.n, .int .i64 r.x] 44 (0, 0)))
    (hlen : (L.length + 1) * 16 ≤ 140737488355328) (hbase : base ≤ w.heap.size)
    (h : ∀ v' w', NewUs base w' v' (L ++ [r]) → w.grownBy w' v.ownBlock → Keep 44 base w w' → wpList Try.prog ops Q rest (a.put o.dst v') w') : wpList Try.prog ops Q (o :: rest) a w := by
  obtain ⟨i0, hi, hz0, hz1, hz2⟩ := infoUs
  refine wpList_append_own w hgd s x 36 ho base 44 i0 _ 2 16 Try.underlying36 hi hz0 hz1 hz2 rfl (by decide) _ _ _ hs hv ⟨g, 0, none⟩ 1 1 (encUs r) hx rfl ?_ (fun u hu => by simp [encUs] at hu; rcases hu with rfl | rfl <;> rfl) (by unfold maxLen; omega) hlen hbase ?_
  · intro j u hj
    rw [add_at, Nat.zero_add, row_cell h0, ← Array.getElem?_toList]
    exact hj
  · intro v' w' hown hgr _
    refine h v' w' ?_ hgr (Keep.grown hv hgr hbase)
    show w'.ownsRow base 44 2 v' (L ++ [r]).length (flatUs (L ++ [r]))
    rw [List.length_append, flatUs_append]
    exact hown
theorem us_cell {base c : Nat} {w : World} {a : Option Addr} {L : List Us} {k : Nat} {u : Us} (h : NewUs base w (.slice a L.length c) L) (hk : L[k]? = some u) : ∃ g, a = some ⟨g, 0, none⟩ ∧ base ≤ g ∧ g < w.heap.size ∧ w.cell? ⟨g, k * 2, none⟩ = some (.int .i64 u.n) ∧ w.cell? ⟨g, k * 2 + 1, none⟩ = some (.int .i64 u.x) ∧ w.frozen? ⟨g, k * 2 + 1, none⟩ = false := by
  have hl := (List.getElem?_eq_some_iff.1 hk).1
  obtain ⟨f1, f2⟩ := flatUs_at hk
  rcases own_row h with ⟨_, h0⟩ | ⟨g, c', e, hb, hg, hc⟩
  · omega
  · injection e with e1 e2 e3
    subst e1
    obtain ⟨_, hbase, cur, hcur⟩ := own_type h g rfl
    exact ⟨g, rfl, hb, hg, hc _ _ f1, hc _ _ f2, row_frozen hcur _⟩

/-! ### the cache of the law, called -/
def Here (B U : Nat) (w0 w : World) (c : Nat) (s : Ca Value) : Prop := Mine B U w c s ∧ Below B w0 w
theorem Here.next {B U : Nat} {own : Nat → Prop} {w0 w w' : World} {c : Nat} {s0 s : Ca Value} (k : CacheAt U own w c s0) (h : Next U own w c s w') (ho : ∀ i, own i → B ≤ i) (hb : Below B w0 w) (hB : B ≤ w0.heap.size) : Hid (Here B (U + 1) w0 w' c s ∧ Still w w') :=
  ⟨(h.mine ho hb (Nat.le_trans hB hb.size)).out, Next.still k h⟩
theorem Here.same {B U : Nat} {w0 w w' : World} {c : Nat} {s : Ca Value} (h : Here B U w0 w c s) (e : w'.heap = w.heap) (hb : Below B w w') : Here B U w0 w' c s := by
  obtain ⟨⟨own, h1, h2⟩, h3⟩ := h
  exact ⟨⟨own, h1.same fun i _ => by rw [e], h2⟩, h3.trans hb⟩
theorem Here.drewN {B U : Nat} {w0 w : World} {c : Nat} {s : Ca Value} (h : Here B U w0 w c s) (q : Nat) : Here B U w0 (w.drewN q) c s := h.same rfl (below_draws (Below.refl _ _) q)
theorem Here.drew {B U : Nat} {w0 w : World} {c : Nat} {s : Ca Value} (h : Here B U w0 w c s) : Here B U w0 w.drew c s := h.same rfl (below_drew (Below.refl _ _))
/-- While rows are made longer or written over. -/
theorem Here.far {B U : Nat} {w0 w w' : World} {c : Nat} {s : Ca Value} {S : Nat → Prop} {T : TypeId} (h : Here B U w0 w c s) (hk : Kept S w w') (hS : ∀ i, S i → i < w.heap.size → B ≤ i ∧ ∃ cur z, w.heap[i]? = some (.cells cur T z)) (h1 : T ≠ 71) (h2 : T ≠ 68) (hB : B ≤ w0.heap.size) : Here B U w0 w' c s := by
  obtain ⟨⟨own, hc, ho⟩, hb⟩ := h
  refine ⟨⟨own, hc.same fun i hi => hk.block i (hc.lt hi) (fun hs => ?_), ho⟩, hb.trans ⟨hk.os, hk.tape, hk.output, hk.size, fun i hi => hk.block i (by have := hb.size; omega) (fun hs => ?_)⟩⟩
  · obtain ⟨_, cur, z, hcur⟩ := hS i hs (hc.lt hi)
    rcases hc.typ hi hcur with e | e
    · exact h1 e
    · exact h2 e
  · have := (hS i hs (by have := hb.size; omega)).1
    omega
theorem Here.grown {B U k n : Nat} {w0 w w' : World} {c : Nat} {s : Ca Value} {T : TypeId} {v : Value} {xs : List Value} (h : Here B U w0 w c s) (ho : w.ownsRow B T k v n xs) (hg : w.grownBy w' v.ownBlock) (h1 : T ≠ 71) (h2 : T ≠ 68) (hB : B ≤ w0.heap.size) : Here B U w0 w' c s :=
  h.far (S := fun i => v.ownBlock = some i) (Kept.of_grown hg (fun _ e => e)) (fun i hi _ => by
    obtain ⟨_, hb, cur, hcur⟩ := own_type ho i hi
    exact ⟨hb, cur, _, hcur⟩) h1 h2 hB
theorem Here.new {B U : Nat} {w0 w : World} {c : Nat} {s : Ca Value} (h : Here B U w0 w c s) (o : Obj) (hB : B ≤ w0.heap.size) : Here B U w0 (w.alloc o) c s := by
  obtain ⟨⟨own, hc, ho⟩, hb⟩ := h
  exact ⟨⟨own, hc.below (below_new w o), ho⟩, hb.alloc (Nat.le_trans hB hb.size) _⟩
theorem Here.facts {B U : Nat} {w0 w : World} {c : Nat} {s : Ca Value} (h : Here B U w0 w c s) : (s.L.map Th.n).Nodup ∧ s.L.length ≤ s.places ∧ 1 ≤ s.places ∧ s.places ≤ 65536 ∧ ∀ t ∈ s.L, IsT t.x := by
  obtain ⟨⟨own, hc, ho⟩, hb⟩ := h
  exact hc.facts
theorem put_here {B U : Nat} {w0 w : World} {c : Nat} {s : Ca Value} (h : Here B U w0 w c s) (hB : B ≤ w0.heap.size) {n x : Int} (hn : (Lit.int .i64 n).wf = true) (hU : U < 4611686018427387904) :
    Calls Try.prog 14 #[ptr c, .int .i64 n, .int .i64 x] w fun r w' => ∃ z t, r = .returned (.tuple #[.int .i64 z, .bool t]) ∧ Hid (Here B (U + 1) w0 w' c (s.put n (vi x)) ∧ Still w w') := by
  obtain ⟨⟨own, h1, h2⟩, h3⟩ := h
  refine (put_any h1 hn ⟨x, rfl⟩ hU).mono ?_
  rintro r w' ⟨rfl, hx⟩
  exact ⟨_, _, rfl, Here.next h1 hx h2 h3 hB⟩
theorem pin_here {B U : Nat} {w0 w : World} {c : Nat} {s : Ca Value} (h : Here B U w0 w c s) (hB : B ≤ w0.heap.size) {n : Int} (hn : (Lit.int .i64 n).wf = true) (hU : U < 4611686018427387904) :
    Calls Try.prog 18 #[ptr c, .int .i64 n] w fun r w' => r = .returned (.bool (s.has n)) ∧ Hid (Here B (U + 1) w0 w' c (s.pin n) ∧ Still w w') := by
  obtain ⟨⟨own, h1, h2⟩, h3⟩ := h
  refine (pin_any h1 hn hU).mono ?_
  rintro r w' ⟨rfl, hx⟩
  exact ⟨rfl, Here.next h1 hx h2 h3 hB⟩
theorem get_here {B U : Nat} {w0 w : World} {c : Nat} {s : Ca Value} (h : Here B U w0 w c s) (hB : B ≤ w0.heap.size) {n : Int} (hn : (Lit.int .i64 n).wf = true) (hU : U < 4611686018427387904) :
    Calls Try.prog 13 #[ptr c, .int .i64 n] w fun r w' => r = .returned (.tuple #[s.tells n, .bool (s.has n)]) ∧ Hid (Here B (U + 1) w0 w' c (s.get n) ∧ Still w w') := by
  obtain ⟨⟨own, h1, h2⟩, h3⟩ := h
  refine (get_any h1 hn hU).mono ?_
  rintro r w' ⟨rfl, hx⟩
  exact ⟨rfl, Here.next h1 hx h2 h3 hB⟩
theorem count_here {B U : Nat} {w0 w : World} {c : Nat} {s : Ca Value} (h : Here B U w0 w c s) : Calls Try.prog 17 #[ptr c] w fun r w' => r = .returned (.int .i64 (s.L.length : Int)) ∧ w' = w := by
  obtain ⟨⟨own, h1, h2⟩, h3⟩ := h
  exact count_any h1
theorem pin_places (s : Ca Value) (n : Int) : (s.pin n).places = s.places := rfl
/-- Pairs of a list of uses. -/
def pairs (H : List Us) : List (Int × Value) := H.map fun u => (u.n, vi u.x)
end Go.Proofs.Yteajgodpdfcioaa
