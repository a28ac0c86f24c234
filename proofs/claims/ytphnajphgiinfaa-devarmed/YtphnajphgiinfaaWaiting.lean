/- The blocks of which writes wait, rising: the device's inner method 'waiting'. -/
import Derived.Test.YtphnajphgiinfaaRead
namespace Go.Proofs
open Go.RowKit Go.Maps Go.Sort Go.Shelf

theorem Try.sortsA (m : Nat) : AnyZI.SortsIn Try.prog Try.sortedA_ren Fence.wide m :=
  ⟨fun blk off cap ss W hH hblk hsz => callsIn_wide.2 (AnyM.slices_Sort_int Try.sortA blk off cap ss W hH hblk hsz),
   fun p cap W => callsIn_wide.2 (AnyM.slices_Sort_int_none Try.sortA p cap W)⟩

namespace Ytphnajphgiinfaa

set_option maxHeartbeats 1000000 in
theorem waiting_raw (b mb nn : Nat) (D0 : DataW Value) (w : World) (c5 : w.cell? ⟨b, 5, none⟩ = some (.map (some mb))) (hown : w.ownsMap Try.prog 3 hW mb nn D0) (hmax : Maps.size D0 ≤ maxLen) (hbytes : Maps.size D0 * 8 ≤ 140737488355328) :
    Calls Try.prog 34 #[.pointer (some ⟨b, 0, none⟩)] w fun e w' => ∃ (v : Value) (ss : List Int), e = .returned v ∧ ss.Perm (intKeys D0) ∧
      w'.ownsRow w.heap.size 3 1 v ss.length ((ss.mergeSort (fun x y => decide (x ≤ y))).map encZ) ∧ (v = .slice none 0 0 ↔ ss = []) ∧ Below w.heap.size w w' := by
  refine (callsIn_wide (n := 6)).1 ?_
  have hbl := hown.lt
  have hseq : SeqGives Fence.wide 2 Try.prog 57 #[.pointer (some ⟨w.heap.size, 0, none⟩)] encZ (fun ss => ss.Perm (intKeys D0)) (Maps.size D0) (w.alloc (.cells #[.map (some mb)] 72)) :=
    AnyZI.keys_gives (ρ := Try.keysA_ren) { Try.keysA with } Fence.wide _ trivial rfl (by omega) w.heap.size mb nn D0 _ (by simp) (by simp) (by
      obtain ⟨es, clock, hb, Ft, hs, hD⟩ := hown
      exact ⟨es, clock, (Below.heap_alloc _ _ mb hbl).trans hb, Ft, hs, hD⟩)
  have cK : ∀ mb W, CallsIn Fence.wide 5 Try.prog 45 #[.map mb] W fun e w' => e = .returned (.func (.func 57) #[] #[.pointer (some ⟨W.heap.size, 0, none⟩)]) ∧ w' = W.alloc (.cells #[.map mb] 72) := fun mb W => AnyZI.keys_in Try.keysA Fence.wide 5 trivial rfl mb W
  have cS := AnyZI.sorted_in Try.sortedA Fence.wide 5 trivial trivial trivial trivial rfl (by omega) (Try.sortsA _) (enters_of Try.func56 (by kernel_rfl) rfl) 57 #[.pointer (some ⟨w.heap.size, 0, none⟩)] trivial (enters_of Try.func57 (by kernel_rfl) rfl) _ _ hmax hbytes _ hseq
  change CallsIn _ _ Try.prog 44 _ _ _ at cS
  have hfK : Fence.wide.fn 45 := trivial
  have hfS : Fence.wide.fn 44 := trivial
  refine callsIn_of_wp Try.func34 rfl trivial ?_ rfl
  simp only [Try.ntmps34, List.size_toArray, List.length_cons, List.length_nil, Nat.reduceAdd, Nat.reduceSub, Array.replicate_succ, Array.replicate_zero, List.push_toArray, List.append_toArray, List.nil_append, List.cons_append]
  gi_wp2_with (first
    | (gi_at_call 45; refine (cK _ _).mono ?_; rintro e w' ⟨rfl, rfl⟩)
    | (gi_at_call 44; refine cS.mono ?_; rintro e w' ⟨v, ss, rfl, hS, hrow, hnil, hb⟩))
  go_ret
  exact ⟨v, ss, rfl, hS, ownsRow_base_a hrow (by simp), hnil, ((Below.refl _ w).alloc (Nat.le_refl _) _).trans (hb.mono (by simp))⟩

/-- The keys of a map, rising. -/
theorem keys_facts {w : World} {R : Value → Option (DataW Value × List MemPlace)} {m c : Nat} {D : DataW Value} (h : w.ownsMap Try.prog 3 R m c D) :
    (intKeys D).Pairwise (· < ·) ∧ (∀ n, n ∈ intKeys D ↔ Maps.has D (key n) = true) ∧ (intKeys D).length ≤ c ∧ Maps.size D = (intKeys D).length ∧ ∀ n ∈ intKeys D, (Lit.int .i64 n).wf = true := by
  have hwf := intKeys_wf h Try.underlying3
  have hsz : ∃ es, D = .map es ∧ es.length ≤ c := by
    obtain ⟨es, cl, _, _, hs, hD⟩ := h
    exact ⟨_, hD, by rw [length_sorted]; simpa using hs⟩
  obtain ⟨es, rfl, hp, _⟩ := h.canon law3
  obtain ⟨es', hD', hko⟩ := h.keysOf
  obtain rfl : es = es' := by simpa using hD'
  obtain ⟨es'', hD'', hlen⟩ := hsz
  obtain rfl : es = es'' := by simpa using hD''
  have hk : ∀ p ∈ es, ∃ x, p.1 = .int .i64 x := fun p hp => by obtain ⟨v, hv⟩ := hko p hp; obtain ⟨x, _, hx, _⟩ := Maps.keyOf_i64 Try.underlying3 hv; exact ⟨x, hx⟩
  refine ⟨?_, ?_, by simpa [intKeys] using hlen, by simp [intKeys, Maps.size], hwf⟩
  · unfold intKeys
    rw [List.pairwise_map]
    refine hp.imp_of_mem ?_
    intro a b ha hb hab
    obtain ⟨x, hx⟩ := hk a ha
    obtain ⟨y, hy⟩ := hk b hb
    rw [hx, hy] at hab ⊢
    have hxy : x < y := by simpa [Lit.before] using hab
    exact hxy
  · intro n
    unfold intKeys
    rw [Maps.has_eq, List.any_eq_true, List.mem_map]
    constructor
    · rintro ⟨p, hp, rfl⟩
      obtain ⟨x, hx⟩ := hk p hp
      refine ⟨p, hp, ?_⟩
      rw [hx]
      exact WideAt.sameKey_self (a := Lit.int .i64 x) trivial
    · rintro ⟨p, hp, hs⟩
      obtain ⟨x, hx⟩ := hk p hp
      refine ⟨p, hp, ?_⟩
      rw [hx] at hs ⊢
      have hxn : x = n := by simpa [Lit.sameKey] using hs
      exact hxn

theorem sort_rising {l : List Int} (h : l.Pairwise (· < ·)) : l.mergeSort leI = l := by
  refine List.mergeSort_of_pairwise (h.imp (fun {a b} hab => ?_))
  simp only [leI, decide_eq_true_eq]
  omega

/-- A slice of numbers: its shape, and its cells. -/
theorem ints_form {w : World} {base : Nat} {v : Value} {K : List Int} (h : w.ownsRow base 3 1 v K.length (K.map encZ)) :
    ∃ a cap, v = .slice a K.length cap ∧ (∀ (i : Nat) n, K[i]? = some n → ∃ g, a = some ⟨g, 0, none⟩ ∧ base ≤ g ∧ g < w.heap.size ∧ w.cell? ⟨g, i, none⟩ = some (.int .i64 n)) := by
  rcases h.2 with ⟨h', h0⟩ | ⟨g, cap, cur, hv, hb, hg, hnc, hcm, hcs, ht⟩
  · refine ⟨none, 0, by rw [h0]; exact h', fun i n hi => ?_⟩
    rw [List.length_eq_zero_iff.1 h0] at hi
    cases hi
  · refine ⟨_, cap, hv, fun i n hi => ⟨g, rfl, hb, (Array.getElem?_eq_some_iff.1 hg).1, ?_⟩⟩
    have : (cur.toList.take (K.length * 1))[i]? = some (.int .i64 n) := by rw [ht]; simp [hi]
    rw [List.getElem?_take] at this
    split at this
    · simpa [World.cell?, hg] using this
    · cases this

/-- 'waiting': new memory with the keys of what waits, rising. -/
theorem waiting_any (lk : Int) (c : Nat) (w : World) (b : Nat) (s : St) (h : DevIs lk c w b s) (hc : c ≤ 1099511627776) :
    Calls Try.prog 34 #[.pointer (some ⟨b, 0, none⟩)] w fun e w' => ∃ a cap, e = .returned (.slice a (intKeys s.DW).length cap) ∧
      (∀ (i : Nat) n, (intKeys s.DW)[i]? = some n → ∃ g, a = some ⟨g, 0, none⟩ ∧ w.heap.size ≤ g ∧ g < w'.heap.size ∧ w'.cell? ⟨g, i, none⟩ = some (.int .i64 n)) ∧ Below w.heap.size w w' := by
  obtain ⟨k1, k2, k3, k4, k5⟩ := keys_facts h.mapW
  refine (waiting_raw b s.mW c s.DW w (h.cell 5) h.mapW (by rw [k4]; unfold maxLen; omega) (by rw [k4]; omega)).mono ?_
  rintro e w' ⟨v, ss, rfl, hp, hrow, _, hb⟩
  have e1 : ss.mergeSort (fun x y => decide (x ≤ y)) = intKeys s.DW := (mergeSort_of_perm_i hp).trans (sort_rising k1)
  rw [e1, hp.length_eq] at hrow
  obtain ⟨a, cap, rfl, hcell⟩ := ints_form hrow
  exact ⟨a, cap, rfl, hcell, hb⟩
end Ytphnajphgiinfaa
end Go.Proofs
