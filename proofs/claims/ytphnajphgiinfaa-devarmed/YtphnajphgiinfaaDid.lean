/- The law's own function 'did', of a Write. -/
import Derived.Test.YtphnajphgiinfaaCopy
import Derived.Test.YtphnajphgiinfaaSmall
import Derived.Laws.CopyOwn
import Derived.Deep.RegionHeldLaw
namespace Go.Proofs.Ytphnajphgiinfaa
open Go.RowKit Go.Maps Go.MuLone Go.Sort

/-- What a Write of a block's bytes does. -/
def WriteIs (c : Nat) (b : Nat) (s : St) (n : Int) (bs : List UInt8) (w : World) (e : Ending) (w' : World) : Prop :=
  if s.off = true then e = .returned (.int .i64 12) ∧ DevIs 0 c w' b s ∧ Kept (fun k => k = b) w w'
  else if inRange n s.blocks = false then e = .returned (.int .i64 11) ∧ DevIs 0 c w' b s ∧ Kept (fun k => k = b) w w'
  else EndIs (c + 1) b s (fun t => ∃ v, t = s.wrote n v bs) (fun t => { t with wt := IntKind.u64.wrap (t.wt + 1) }) w e w'

theorem write_any (c : Nat) (w : World) (b : Nat) (s : St) (h : DevIs 0 c w b s) (hc : c ≤ 549755813888) (n : Int) (hn : (Lit.int .i64 n).wf = true) (hml : (s.waits n).length ≤ 1099511627776) (bv : Value) (bs : List UInt8) (hb : bytesAt w s.size bv bs) :
    Calls Try.prog 11 #[.pointer (some ⟨b, 0, none⟩), .int .i64 n, bv] w (WriteIs c b s n bs w) := by
  unfold WriteIs
  obtain ⟨gb, capb, rfl, _⟩ := bytesAt_form hb h.size.1
  cases hoff : s.off with
  | true => simp only [if_true]; exact write_off c w b s h hoff n _ _ _
  | false =>
    simp only [Bool.false_eq_true, if_false]
    cases hr : inRange n s.blocks with
    | false => simp only [if_true]; exact write_range c w b s h hoff n hr _ _ _
    | true => simp only [Bool.true_eq_false, if_false]; exact write_on c w b s h hc hoff n hn hml hr _ bs hb

/-- The bytes that a step writes: its own ones, made as long as a block by one value. -/
def madeOf (size : Nat) (v : UInt8) (T : List UInt8) : List UInt8 := T.take size ++ List.replicate (size - T.length) v

theorem madeOf_splice (size : Nat) (v : UInt8) (T : List UInt8) : splice ((List.replicate size v).map encB) 0 ((T.take size).map encB) = (madeOf size v T).map encB := by
  unfold splice madeOf
  simp [List.map_take]
  omega

/-- A slice of bytes that came in. -/
def BytesIn (N : Nat) (w : World) (a : Option Addr) (T : List UInt8) : Prop := ∀ (j : Nat) c, T[j]? = some c → ∃ g off, a = some ⟨g, off, none⟩ ∧ g < N ∧ w.cell? ⟨g, off + j, none⟩ = some (.int .u8 (c.toNat : Int))

theorem did_copy {W0 w2 : World} {N size : Nat} {v : UInt8} {a : Option Addr} {T : List UInt8} (hv : w2.ownsRow W0.heap.size 5 1 (.slice (some ⟨W0.heap.size, 0, none⟩) size size) size ((List.replicate size v).map encB)) (hT : BytesIn N w2 a T) :
    w2.heap[W0.heap.size]? = some (.cells ((List.replicate size v).map encB).toArray 5 (0, 0)) ∧ (∀ (j : Nat) u, ((T.take size).map encB)[j]? = some u → ∃ ad, a = some ad ∧ w2.cell? (ad.add j) = some u) := by
  constructor
  · rcases hv.2 with ⟨e, _⟩ | ⟨g, cap, cur, e, _, hg, _, _, hcs, ht⟩
    · cases e
    · simp at e
      obtain ⟨rfl, rfl⟩ := e
      rw [hg]
      have : cur.toList = (List.replicate size v).map encB := by
        rw [← ht, List.take_of_length_le (by simp [hcs])]
      rw [← this]
  · intro j u hj
    rw [List.getElem?_map] at hj
    cases hc : (T.take size)[j]? with
    | none => rw [hc] at hj; cases hj
    | some c' =>
      rw [hc] at hj
      simp at hj
      subst hj
      rw [List.getElem?_take] at hc
      split at hc
      · obtain ⟨g, off, e1, _, e3⟩ := hT j c' hc
        refine ⟨_, e1, ?_⟩
        have hadd : (⟨g, off, none⟩ : Addr).add j = ⟨g, off + j, none⟩ := by unfold Addr.add; split <;> simp_all
        rw [hadd, e3]; rfl
      · cases hc

theorem did_row {w3 : World} {g size : Nat} {v : UInt8} {T : List UInt8} (hg : w3.heap[g]? = some (.cells (splice ((List.replicate size v).map encB) 0 ((T.take size).map encB)).toArray 5 (0, 0))) (hs : size ≤ 4096) :
    bytesAt w3 size (.slice (some ⟨g, 0, none⟩) size size) (madeOf size v T) := by
  rw [madeOf_splice] at hg
  have hl : ((madeOf size v T).map encB).length = size := by unfold madeOf; simp; omega
  refine ⟨by rw [hl]; omega, .inr ⟨g, size, _, rfl, Nat.zero_le _, hg, Nat.le_refl _, by unfold maxLen; omega, by simpa using hl, ?_⟩⟩
  rw [List.take_of_length_le (by simpa using Nat.le_of_eq hl)]

set_option maxHeartbeats 2000000 in
set_option maxRecDepth 100000 in
theorem did_write (c : Nat) (w : World) (b : Nat) (s : St) (h : DevIs 0 c w b s) (hc : c ≤ 549755813888) (on A B : Int) (hA : (Lit.int .i64 A).wf = true) (hml : (s.waits A).length ≤ 1099511627776) (v : UInt8) (aT aF : Option Addr) (capT lenF capF : Nat) (T : List UInt8) (hT : BytesIn w.heap.size w aT T) (dn : Bool) :
    Calls Try.prog 21 #[.pointer (some ⟨b, 0, none⟩), .agg #[.int .i64 3, .int .i64 on, .int .i64 A, .int .i64 B, .int .u8 (v.toNat : Int), .slice aT T.length capT, .slice aF lenF capF, .bool dn]] w fun e w' =>
      ∃ w1, Below w.heap.size w w1 ∧ DevIs 0 c w1 b s ∧ WriteIs c b s A (madeOf s.size v T) w1 e w' := by
  have hbl := h.own_lt (.inl rfl)
  have hba : Below w.heap.size w (w.alloc (.cells #[.int .i64 3, .int .i64 on, .int .i64 A, .int .i64 B, .int .u8 (v.toNat : Int), .slice aT T.length capT, .slice aF lenF capF, .bool dn] 53)) := (Below.refl _ _).alloc (Nat.le_refl _) _
  have h0 := h.below hba
  have hs4 := h.size.2
  have hs1 := h.size.1
  obtain ⟨i0, hi, hz0, hz1, hz2⟩ := info5'
  have hsz5 : (Try.prog.info? 5).map (·.size) = some 1 := by rw [hi]; simp [hz1]
  go_enter Try.func21, Try.ntmps21
  go_wp2_with fail
  have x2 : (w.alloc (.cells #[.int .i64 3, .int .i64 on, .int .i64 A, .int .i64 B, .int .u8 (v.toNat : Int), .slice aT T.length capT, .slice aF lenF capF, .bool dn] 53)).cell? ⟨w.heap.size, 2, none⟩ = some (.int .i64 A) := by simp
  have x4 : (w.alloc (.cells #[.int .i64 3, .int .i64 on, .int .i64 A, .int .i64 B, .int .u8 (v.toNat : Int), .slice aT T.length capT, .slice aF lenF capF, .bool dn] 53)).cell? ⟨w.heap.size, 4, none⟩ = some (.int .u8 (v.toNat : Int)) := by simp
  have x5 : (w.alloc (.cells #[.int .i64 3, .int .i64 on, .int .i64 A, .int .i64 B, .int .u8 (v.toNat : Int), .slice aT T.length capT, .slice aF lenF capF, .bool dn] 53)).cell? ⟨w.heap.size, 5, none⟩ = some (.slice aT T.length capT) := by simp
  generalize w.alloc (.cells #[.int .i64 3, .int .i64 on, .int .i64 A, .int .i64 B, .int .u8 (v.toNat : Int), .slice aT T.length capT, .slice aF lenF capF, .bool dn] 53) = W0 at *
  have HN : Hid (∀ W : World, Below W0.heap.size W0 W → BytesIn w.heap.size W aT T) := fun W hW j c' hj => by
    obtain ⟨g, off, e1, e2, e3⟩ := hT j c' hj
    refine ⟨g, off, e1, e2, ?_⟩
    rw [hW.cell (p := ⟨g, off + j, none⟩) (Nat.lt_of_lt_of_le e2 hba.size), hba.cell (p := ⟨g, off + j, none⟩) e2]
    exact e3
  have hwW := hba.size
  go_region_held_law (fun W => W.cell? ⟨w.heap.size, 4, none⟩ = some (.int .u8 (v.toNat : Int))) (go_keep)
    (first
      | (go_at_call 39; refine (size_any 0 c _ b s (h0.below (below_drew _ W0))).mono ?_; rintro e w1 ⟨rfl, rfl⟩)
      | (go_at_call 12; refine (fill_any s.size v _ hs4).mono ?_; rintro e w2 ⟨v2, rfl, rfl, hv2, hb2⟩
         have hb02 : Below W0.heap.size W0 w2 := (below_drew _ W0).trans hb2
         have kb2 : Kept (fun _ => False) W0 w2 := Kept.of_below hb02
         have y2 := kept_cell_some kb2 x2 id
         have y4 := kept_cell_some kb2 x4 id
         have y5 := kept_cell_some kb2 x5 id))
  obtain ⟨hgc, hbT⟩ := did_copy (size := s.size) (v := v) hv2 (HN.out w2 hb02)
  have HBT : Hid (∀ (j : Nat) u, ((T.take s.size).map encB)[j]? = some u → ∃ ad, aT = some ad ∧ w2.cell? (ad.add j) = some u) := hbT
  have hlenc : ((T.take s.size).map encB).length = Nat.min T.length s.size := by simp [Nat.min_comm]
  have hposc : 0 < ((T.take s.size).map encB).length → some (⟨W0.heap.size, 0, none⟩ : Addr) = some ⟨W0.heap.size, 0, none⟩ ∧ ∃ ad, aT = some ad ∧ ∀ (j : Nat) u, ((T.take s.size).map encB)[j]? = some u → w2.cell? (ad.add j) = some u := fun hp => by
    obtain ⟨ad, e1, _⟩ := hbT 0 _ (List.getElem?_eq_getElem hp)
    refine ⟨rfl, ad, e1, fun j u hj => ?_⟩
    obtain ⟨ad', e2, e3⟩ := hbT j u hj
    rw [e1] at e2
    cases e2
    exact e3
  have hfitc : 0 + ((T.take s.size).map encB).length ≤ ((List.replicate s.size v).map encB).length := by simp; omega
  have HG : Hid (w2.heap[W0.heap.size]? = some (.cells ((List.replicate s.size v).map encB).toArray 5 (0, 0))) := hgc
  have hb0 := hba
  clear hgc hbT HN hT hv2 hb2 hba
  go_wp2_with (refine wpList_copy_splice rfl _ _ 29 29 rfl 5 Try.underlying29 hsz5 _ _ _ _ _ _ rfl rfl W0.heap.size 0 ((List.replicate s.size v).map encB) 5 HG.out ((T.take s.size).map encB) hlenc hposc hfitc (oneB _) W0.heap.size W0 hb02 (Nat.le_refl _) ?_; intro w3 hg3 hb3; have z2 := kept_cell_some (Kept.of_below (S := fun _ => False) hb3) x2 id)
  have hrow3 := did_row (size := s.size) (v := v) (T := T) hg3.out hs4
  refine (write_any c w3 b s (h0.below hb3) hc A hA hml _ _ hrow3).mono ?_
  intro e w4 hwr
  have hee : ∃ z, e = .returned (.int .i64 z) := by
    have h' := hwr
    unfold WriteIs EndIs at h'
    split at h'
    · exact ⟨_, h'.1⟩
    · split at h'
      · exact ⟨_, h'.1⟩
      · obtain ⟨_, _, _, _, _, h2⟩ := h'
        split at h2
        · exact ⟨_, h2.2.2⟩
        · exact ⟨_, h2.2.2⟩
  obtain ⟨z, rfl⟩ := hee
  have HW : Hid (WriteIs c b s A (madeOf s.size v T) w3 (.returned (.int .i64 z)) w4) := hwr
  clear hwr hrow3
  go_wp2
  go_ret
  exact ⟨w3, hb0.trans (hb3.mono hwW), h0.below hb3, HW.out⟩
end Go.Proofs.Ytphnajphgiinfaa
