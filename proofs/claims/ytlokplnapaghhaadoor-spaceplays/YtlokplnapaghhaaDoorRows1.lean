/- Rows of bytes and of runs that the call makes; what is put behind them. -/
import Derived.Test.YtlokplnapaghhaaDoorNews
import Derived.Test.YtlokplnapaghhaaDoorRunsP
import Derived.Laws.AppendOwnNone
import Derived.Deep.AppendLies
namespace Go.Proofs.YtlokplnapaghhaaDoor
open Go.RowKit

def encB (c : UInt8) : Value := .int .u8 (c.toNat : Int)
def flatR (L : List (Nat × Nat)) : List Value := L.flatMap fun r => [.int .i64 (r.1 : Int), .int .i64 (r.2 : Int)]
theorem flatR_length (L : List (Nat × Nat)) : (flatR L).length = L.length * 2 := by
  induction L with
  | nil => rfl
  | cons r L ih => simp [flatR] at ih ⊢; omega
theorem flatR_append (L M : List (Nat × Nat)) : flatR (L ++ M) = flatR L ++ flatR M := by simp [flatR]
abbrev NewB (base : Nat) (w : World) (v : Value) (bs : List UInt8) : Prop := w.ownsRow base 5 1 v bs.length (bs.map encB)
abbrev NewR (base : Nat) (w : World) (v : Value) (L : List (Nat × Nat)) : Prop := w.ownsRow base 64 2 v L.length (flatR L)
theorem add_at (g off j : Nat) : (⟨g, off, none⟩ : Addr).add j = ⟨g, off + j, none⟩ := by unfold Addr.add; split <;> simp_all
theorem infoB : (Tryd.prog.info? 5).map (fun i => (i.zero, i.size, i.bytes)) = some (some (.int .u8 0), 1, 1) := by kernel_rfl
theorem infoB' : ∃ i, Tryd.prog.info? 5 = some i ∧ i.zero = some (.int .u8 0) ∧ i.size = 1 ∧ i.bytes = 1 := by
  have h := infoB
  cases hi : Tryd.prog.info? 5 with
  | none => rw [hi] at h; simp at h
  | some i => rw [hi] at h; simp at h; exact ⟨i, rfl, h⟩
theorem infoR : (Tryd.prog.info? 64).map (fun i => (i.zero, i.size, i.bytes)) = some (some (.agg #[.int .i64 0, .int .i64 0]), 2, 16) := by kernel_rfl
theorem infoR' : ∃ i, Tryd.prog.info? 64 = some i ∧ i.zero = some (.agg #[.int .i64 0, .int .i64 0]) ∧ i.size = 2 ∧ i.bytes = 16 := by
  have h := infoR
  cases hi : Tryd.prog.info? 64 with
  | none => rw [hi] at h; simp at h
  | some i => rw [hi] at h; simp at h; exact ⟨i, rfl, h⟩
theorem own_same {w w' : World} {base e n k : Nat} {v : Value} {xs : List Value} (ho : w.ownsRow base e k v n xs) (h : ∀ b, v.ownBlock = some b → b < w.heap.size → w'.heap[b]? = w.heap[b]?) : w'.ownsRow base e k v n xs := by
  obtain ⟨h1, h2⟩ := ho
  refine ⟨h1, ?_⟩
  rcases h2 with h2 | ⟨g, cap, cur, rfl, hb, hg, hc⟩
  · exact .inl h2
  · exact .inr ⟨g, cap, cur, rfl, hb, by rw [h g rfl (Array.getElem?_eq_some_iff.1 hg).1]; exact hg, hc⟩
theorem own_mono {w : World} {base base' e n k : Nat} {v : Value} {xs : List Value} (ho : w.ownsRow base e k v n xs) (h : base' ≤ base) : w.ownsRow base' e k v n xs := by
  obtain ⟨h1, h2⟩ := ho
  refine ⟨h1, ?_⟩
  rcases h2 with h2 | ⟨g, cap, cur, rfl, hb, hg⟩
  · exact .inl h2
  · exact .inr ⟨g, cap, cur, rfl, by omega, hg⟩
theorem own_type {w : World} {base e n s : Nat} {v : Value} {xs : List Value} (ho : w.ownsRow base e s v n xs) (k : Nat) (hk : v.ownBlock = some k) : k < w.heap.size ∧ base ≤ k ∧ ∃ cur, w.heap[k]? = some (.cells cur e (0, 0)) := by
  obtain ⟨_, h2⟩ := ho
  rcases h2 with ⟨rfl, _⟩ | ⟨g, cap, cur, rfl, hb, hg, _⟩
  · cases hk
  · cases hk
    exact ⟨(Array.getElem?_eq_some_iff.1 hg).1, hb, cur, hg⟩
theorem own_here {w w' : World} {base e n k : Nat} {v : Value} {xs : List Value} (ho : w.ownsRow base e k v n xs) (hb : Below w.heap.size w w') : w'.ownsRow base e k v n xs :=
  own_same ho fun b _ hl => hb.block b hl
theorem own_kept {S : Nat → Prop} {w w' : World} {base e n k : Nat} {v : Value} {xs : List Value} (ho : w.ownsRow base e k v n xs) (hk : Kept S w w') (hS : ∀ b, v.ownBlock = some b → ¬ S b) : w'.ownsRow base e k v n xs :=
  own_same ho fun b hb hl => hk.block b hl (hS b hb)
theorem grown_below {w w' : World} {base e n k : Nat} {v : Value} {xs : List Value} (ho : w.ownsRow base e k v n xs) (hg : w.grownBy w' v.ownBlock) (hB : base ≤ w.heap.size) : Below base w w' :=
  (Below.refl _ _).grown hg hB (fun k e => (own_type ho k e).2.1)

/-- What stays: all below a border, and whatever block is none of a type. -/
structure Keep (T : TypeId) (B : Nat) (w w' : World) : Prop where
  low : Below B w w'
  typ : ∀ (k : Nat) (cur : Array Value) (t : TypeId) z, t ≠ T → w.heap[k]? = some (Obj.cells cur t z) → w'.heap[k]? = some (Obj.cells cur t z)
theorem Keep.refl (T : TypeId) (B : Nat) (w : World) : Keep T B w w := ⟨Below.refl _ _, fun _ _ _ _ _ h => h⟩
theorem Keep.trans {T : TypeId} {B : Nat} {a b c : World} (h : Keep T B a b) (k : Keep T B b c) : Keep T B a c := ⟨h.low.trans k.low, fun i cur t z ht hi => k.typ i cur t z ht (h.typ i cur t z ht hi)⟩
theorem Keep.of {T : TypeId} {B : Nat} {w w' : World} (h : Below w.heap.size w w') (hB : B ≤ w.heap.size) : Keep T B w w' := ⟨h.mono hB, fun k cur t z _ hk => by rw [h.block k (Array.getElem?_eq_some_iff.1 hk).1]; exact hk⟩
theorem Keep.mono {T : TypeId} {B B' : Nat} {w w' : World} (h : Keep T B w w') (hB : B' ≤ B) : Keep T B' w w' := ⟨h.low.mono hB, h.typ⟩
theorem Keep.grown {T base k : Nat} {w w' : World} {v : Value} {n : Nat} {xs : List Value} (hv : w.ownsRow base T k v n xs) (hg : w.grownBy w' v.ownBlock) (hB : base ≤ w.heap.size) : Keep T base w w' := by
  refine ⟨grown_below hv hg hB, fun k cur t z ht hk => ?_⟩
  obtain ⟨_, _, _, _, hbl⟩ := hg
  rw [hbl k (Array.getElem?_eq_some_iff.1 hk).1]
  · exact hk
  · intro e
    obtain ⟨_, _, cur', h'⟩ := own_type hv k e.symm
    rw [hk] at h'
    simp only [Option.some.injEq, Obj.cells.injEq] at h'
    exact ht h'.2.1
/-- A run put behind others. -/
theorem wpList_append_run {w : World} {ops : Array Oper} {rest : List Oper} {o : Oper} {a : Act} {Q : Exit → Act → World → Prop} (hgd : o.guard = none) (s x : Operand)
    (ho : o.op = .call { callee := .builtin .append, args := #[s, x], argTypes := #[41, 41] }) (base : Nat)
    (v : Value) (L : List (Nat × Nat)) (r : Nat × Nat) (hs : a.eval s = v) (hv : NewR base w v L) (g : Nat) (hx : a.eval x = .slice (some ⟨g, 0, none⟩) 1 1)
    (h0 : w.cell? ⟨g, 0, none⟩ = some (.int .i64 (r.1 : Int))) (h1 : w.cell? ⟨g, 1, none⟩ = some (.int .i64 (r.2 : Int)))
    (hlen : (L.length + 1) * 16 ≤ 140737488355328) (hbase : base ≤ w.heap.size)
    (h : ∀ v' w', NewR base w' v' (L ++ [r]) → w.grownBy w' v.ownBlock → Keep 64 base w w' → wpList Tryd.prog ops Q rest (a.put o.dst v') w') : wpList Tryd.prog ops Q (o :: rest) a w := by
  obtain ⟨i0, hi, hz0, hz1, hz2⟩ := infoR'
  refine wpList_append_own w hgd s x 41 ho base 64 i0 _ 2 16 Tryd.underlying41 hi hz0 hz1 hz2 rfl (by decide) _ _ _ hs hv ⟨g, 0, none⟩ 1 1 (flatR [r]) hx (flatR_length [r]) ?_ ?_ (by unfold maxLen; omega) hlen hbase ?_
  · intro j u hj
    rw [add_at, Nat.zero_add]
    rcases j with _ | _ | j
    · simp [flatR] at hj; rw [h0, hj]
    · simp [flatR] at hj; rw [h1, hj]
    · simp [flatR] at hj
  · intro u hu
    simp [flatR] at hu
    rcases hu with rfl | rfl <;> rfl
  · intro v' w' hown hgr _
    refine h v' w' ?_ hgr (Keep.grown hv hgr hbase)
    show w'.ownsRow base 64 2 v' (L ++ [r]).length (flatR (L ++ [r]))
    rw [List.length_append, flatR_append]
    exact hown
/-- A byte put behind others. -/
theorem wpList_append_byte {w : World} {ops : Array Oper} {rest : List Oper} {o : Oper} {a : Act} {Q : Exit → Act → World → Prop} (hgd : o.guard = none) (s x : Operand)
    (ho : o.op = .call { callee := .builtin .append, args := #[s, x], argTypes := #[37, 37] }) (base : Nat)
    (v : Value) (L : List UInt8) (r : UInt8) (hs : a.eval s = v) (hv : NewB base w v L) (g : Nat) (hx : a.eval x = .slice (some ⟨g, 0, none⟩) 1 1)
    (h0 : w.cell? ⟨g, 0, none⟩ = some (encB r))
    (hlen : L.length + 1 ≤ 140737488355328) (hbase : base ≤ w.heap.size)
    (h : ∀ v' w', NewB base w' v' (L ++ [r]) → w.grownBy w' v.ownBlock → Keep 5 base w w' → wpList Tryd.prog ops Q rest (a.put o.dst v') w') : wpList Tryd.prog ops Q (o :: rest) a w := by
  obtain ⟨i0, hi, hz0, hz1, hz2⟩ := infoB'
  refine wpList_append_own w hgd s x 37 ho base 5 i0 _ 1 1 Tryd.underlying37 hi hz0 hz1 hz2 rfl (by decide) _ _ _ hs hv ⟨g, 0, none⟩ 1 1 [encB r] hx rfl ?_ ?_ (by unfold maxLen; omega) (by omega) hbase ?_
  · intro j u hj
    rw [add_at, Nat.zero_add]
    rcases j with _ | j
    · simp at hj; rw [h0, hj]
    · simp at hj
  · intro u hu
    simp at hu
    rw [hu]; rfl
  · intro v' w' hown hgr _
    refine h v' w' ?_ hgr (Keep.grown hv hgr hbase)
    show w'.ownsRow base 5 1 v' (L ++ [r]).length ((L ++ [r]).map encB)
    rw [List.length_append, List.map_append]
    exact hown
/-- A number in four bytes, the highest first. -/
def be4 (n : Nat) : List UInt8 := [UInt8.ofNat (n / 16777216), UInt8.ofNat (n / 65536), UInt8.ofNat (n / 256), UInt8.ofNat n]
theorem be4_length (n : Nat) : (be4 n).length = 4 := rfl
theorem be4_at (n k : Nat) (h : k < 4) : (be4 n)[k]? = some (UInt8.ofNat (n / 2 ^ (8 * (3 - k)))) := by
  rcases (show k = 0 ∨ k = 1 ∨ k = 2 ∨ k = 3 by omega) with rfl | rfl | rfl | rfl <;> simp [be4]
theorem byte_said (n k : Nat) : encB (UInt8.ofNat (n / 2 ^ k)) = .int .u8 ((n : Int) / 2 ^ k % 256) := by
  unfold encB
  congr 1
set_option maxHeartbeats 800000 in
theorem putNumber_any (w : World) (base : Nat) (v : Value) (L : List UInt8) (n : Nat) (hv : NewB base w v L) (hL : L.length ≤ 1048576) (hb : base ≤ w.heap.size) :
    Calls Tryd.prog 45 #[v, .int .i64 n] w fun e w' => ∃ v', e = .returned v' ∧ NewB base w' v' (L ++ be4 n) ∧ Keep 5 base w w' := by
  go_enter Tryd.func45, Tryd.ntmps45
  go_wp2
  go_loopw [0, 6] (fun u i wx => ∃ k : Nat, k ≤ 4 ∧ i = .int .i64 k ∧ NewB base wx u (L ++ (be4 n).take k) ∧ Keep 5 base w wx) (fun _ i _ => 4 - (intOf i).toNat)
  case atStart => exact ⟨0, by omega, rfl, by simpa using hv, Keep.refl _ _ _⟩
  case round =>
    obtain ⟨k, hk, rfl, hu, hbl⟩ := hrel
    by_cases hlt : k < 4
    · have hltz : (k : Int) < 4 := by omega
      have hat := be4_at n k hlt
      have hbs := byte_said n (8 * (3 - k))
      generalize UInt8.ofNat (n / 2 ^ (8 * (3 - k))) = c at hat hbs
      have HT : Hid (L ++ (be4 n).take (k + 1) = (L ++ (be4 n).take k) ++ [c]) := by
        show _ = _
        rw [List.take_add_one, hat, List.append_assoc]; rfl
      have hbn : Below wr.heap.size wr (wr.alloc (.cells #[.int .u8 ((n : Int) / 2 ^ (8 * (3 - k)) % 256)] 5)) := (Below.refl _ _).alloc (Nat.le_refl _) _
      have hcell : (wr.alloc (.cells #[.int .u8 ((n : Int) / 2 ^ (8 * (3 - k)) % 256)] 5)).cell? ⟨wr.heap.size, 0, none⟩ = some (encB c) := by
        rw [row_cell (heap_alloc_last wr _), hbs]; rfl
      have hl : (L ++ (be4 n).take k).length + 1 ≤ 140737488355328 := by
        have := List.length_take_le k (be4 n)
        simp only [List.length_append]
        omega
      have hsz := hbl.low.size
      have HU : Hid _ := own_here hu hbn
      have HC : Hid _ := hcell
      have HB : Hid (Keep 5 base w (wr.alloc (.cells #[.int .u8 ((n : Int) / 2 ^ (8 * (3 - k)) % 256)] 5))) := hbl.trans (Keep.of hbn (by omega))
      clear hu hcell hbl hbn hat hbs
      go_wp2_with (at_builtin; refine wpList_append_byte rfl _ _ rfl base _ _ c rfl HU.out wr.heap.size rfl HC.out hl (by simp; omega) ?_; intro v' w' hv' _ hb')
      exact ⟨⟨k + 1, by omega, by go_num, by rw [HT.out]; exact hv', HB.out.trans hb'⟩, by simp [intOf]; omega⟩
    · have hltz : ¬ (k : Int) < 4 := by omega
      have HE : Hid ((be4 n).take k = be4 n) := List.take_of_length_le (by rw [be4_length]; omega)
      have HU : Hid _ := hu
      have HB : Hid _ := hbl
      clear hu hbl
      go_wp2
      go_ret
      exact ⟨_, rfl, by rw [← HE.out]; exact HU.out, HB.out⟩
end Go.Proofs.YtlokplnapaghhaaDoor
