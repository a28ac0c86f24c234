/- Where a key stands among keys that rise (slices.BinarySearchFunc); a number many times (slices.Repeat). -/
import Derived.Test.YtkjjgbaoicjbaabSorted
import Derived.Laws.CopyOwn
import Derived.Deep.RegionLaw
namespace Go.Proofs.Ytkjjgbaoicjbaab
open Go.RowKit

/-- A list of keys of new memory, maybe none. -/
structure KeysV (base : Nat) (w : World) (v : Value) (L : List Kc) : Prop where
  is : (v = .slice none 0 0 ∧ L = []) ∨ ∃ g c, v = .slice (some ⟨g, 0, none⟩) L.length c ∧ base ≤ g ∧ L.length ≤ 140737488355328 ∧ RowK w g c L
theorem KeysV.form {base : Nat} {w : World} {v : Value} {L : List Kc} (h : KeysV base w v L) : ∃ a c, v = .slice a L.length c := by
  rcases h.is with ⟨rfl, rfl⟩ | ⟨g, c, rfl, _⟩
  · exact ⟨_, _, rfl⟩
  · exact ⟨_, _, rfl⟩
theorem KeysV.cell {base i : Nat} {w : World} {v : Value} {L : List Kc} {e : Kc} (h : KeysV base w v L) (hi : L[i]? = some e) : ∃ g c, v = .slice (some ⟨g, 0, none⟩) L.length c ∧ w.cell? ⟨g, i, none⟩ = some e.v := by
  rcases h.is with ⟨rfl, rfl⟩ | ⟨g, c, rfl, _, _, hr⟩
  · simp at hi
  · exact ⟨g, c, rfl, hr.cell hi⟩
theorem KeysV.short {base : Nat} {w : World} {v : Value} {L : List Kc} (h : KeysV base w v L) : L.length ≤ 140737488355328 := by
  rcases h.is with ⟨rfl, rfl⟩ | ⟨g, c, rfl, _, hc, hr⟩
  · simp
  · exact hc
theorem KeysV.keep {base T : Nat} {w w' : World} {v : Value} {L : List Kc} (h : KeysV base w v L) (hk : Keep T base w w') (hT : 23 ≠ T) : KeysV base w' v L := by
  rcases h.is with ⟨rfl, rfl⟩ | ⟨g, c, rfl, hb, hc, hr⟩
  · exact ⟨.inl ⟨rfl, rfl⟩⟩
  · refine ⟨.inr ⟨g, c, rfl, hb, hc, ?_⟩⟩
    obtain ⟨cur, h1, h2⟩ := hr.is
    exact ⟨cur, hk.typ _ _ _ _ hT h1, h2⟩
theorem KeysV.draws {base : Nat} {w : World} {v : Value} {L : List Kc} (h : KeysV base w v L) (n : Nat) : KeysV base (w.drewN n) v L := by
  rcases h.is with ⟨rfl, rfl⟩ | ⟨g, c, rfl, hb, hc, hr⟩
  · exact ⟨.inl ⟨rfl, rfl⟩⟩
  · exact ⟨.inr ⟨g, c, rfl, hb, hc, hr.draws n⟩⟩
set_option maxRecDepth 100000 in
theorem compact_none (w : World) (fv : Value) : Calls Try.prog 38 #[.slice none 0 0, fv] w fun r w' => r = .returned (.slice none 0 0) ∧ w' = w := by
  go_enter Try.func38, Try.ntmps38
  go_wp2
  go_ret
  exact ⟨rfl, rfl⟩
theorem own_keysV {base : Nat} {w : World} {v : Value} {L : List Kc} (h : w.ownsRow base 23 1 v L.length (L.map Kc.v)) (hl : L.length ≤ 140737488355328) : KeysV base w v L := by
  obtain ⟨_, h2⟩ := h
  rcases h2 with ⟨e, h0⟩ | ⟨g, c, cur, e, hb, hg, hc, hm, hs, ht⟩
  · exact ⟨.inl ⟨e, List.eq_nil_of_length_eq_zero h0⟩⟩
  · exact ⟨.inr ⟨g, c, e, hb, hl, cur, hg, by simpa using hs, by simpa using ht⟩⟩
theorem sortV_any {base : Nat} {w : World} {v : Value} {L : List Kc} (hb : base ≤ w.heap.size) (h : KeysV base w v L) (hok : ∀ e ∈ L, KeyK base w e.v e.k) (hlen : L.length ≤ 4398046511104) :
    Calls Try.prog 36 #[v, .func (.func 37) #[] #[]] w fun e w' => e = .returned (.tuple #[]) ∧ ∃ E : List Kc, E.Perm L ∧ (keysOf E).Pairwise (· ≤ ·) ∧ KeysV base w' v E ∧ Keep 23 base w w' := by
  rcases h.is with ⟨rfl, rfl⟩ | ⟨g, c, rfl, hB, hl, hr⟩
  · refine (sort_none w 0 _).mono ?_
    rintro e w' ⟨rfl, rfl⟩
    exact ⟨rfl, [], List.Perm.refl _, by simp [keysOf], ⟨.inl ⟨rfl, rfl⟩⟩, Keep.refl _ _ _⟩
  · refine (sort_any hb hB hr hok hlen).mono ?_
    rintro e w' ⟨rfl, E, hp, hs, hr', hk⟩
    have hle := hp.length_eq
    exact ⟨rfl, E, hp, hs, ⟨.inr ⟨g, c, by rw [hle], hB, by omega, hr'⟩⟩, hk⟩
/-- What is left of keys that rise or are one. -/
structure ThinPost (base : Nat) (w : World) (S : List Kc) (r : Ending) (w' : World) : Prop where
  is : ∃ (v : Value) (D : List Kc), r = .returned v ∧ KeysV base w' v D ∧ (keysOf D).Pairwise (· < ·) ∧ (∀ x ∈ D, x ∈ S) ∧ (∀ x ∈ S, ∃ y ∈ D, y.k = x.k) ∧ D.length ≤ S.length ∧ Keep 23 base w w'
theorem thin_any {base : Nat} {w : World} {v : Value} {S : List Kc} (hb : base ≤ w.heap.size) (h : KeysV base w v S) (hok : ∀ e ∈ S, KeyK base w e.v e.k) (hs : (keysOf S).Pairwise (· ≤ ·)) :
    Calls Try.prog 38 #[v, .func (.func 39) #[] #[]] w fun r w' => ThinPost base w S r w' := by
  rcases h.is with ⟨rfl, rfl⟩ | ⟨g, c, rfl, hB, hl, hr⟩
  · refine (compact_none w _).mono ?_
    rintro e w' ⟨rfl, rfl⟩
    exact ⟨_, [], rfl, ⟨.inl ⟨rfl, rfl⟩⟩, by simp [keysOf], fun x hx => by simp at hx, fun x hx => by simp at hx, Nat.le_refl _, Keep.refl _ _ _⟩
  · refine (compact_any hb hB hr hok hs hl).mono ?_
    rintro e w' ⟨D, rfl, hr', h1, h2, h3, hle, h4⟩
    exact ⟨_, D, rfl, ⟨.inr ⟨g, c, rfl, hB, by omega, hr'⟩⟩, h1, h2, h3, hle, h4⟩
/-- What a search leaves. -/
structure PlacePost (w : World) (C : List Key) (k : Key) (r : Ending) (w' : World) : Prop where
  is : ∃ (p : Nat) (b : Bool), r = .returned (.tuple #[.int .i64 (p : Int), .bool b]) ∧ Place C k p ∧ ∃ q, w' = w.drewN q

set_option maxHeartbeats 1600000 in
set_option maxRecDepth 100000 in
theorem searchK_any {base : Nat} {w : World} {v u : Value} {L : List Kc} {k : Key} (hb : base ≤ w.heap.size) (hL : KeysV base w v L) (hok : ∀ e ∈ L, KeyK base w e.v e.k) (hr : (keysOf L).Pairwise (· < ·)) (hu : KeyAt w u k) :
    Calls Try.prog 42 #[v, u, .func (.func 37) #[] #[]] w fun r w' => PlacePost w (keysOf L) k r w' := by
  have hsh := hL.short
  obtain ⟨a, c, rfl⟩ := hL.form
  obtain ⟨au, cu, e⟩ := hu.in.form
  subst e
  have HL : Hid (KeysV base w (.slice a L.length c) L) := hL
  have HU : Hid (KeyAt w (.slice au k.length cu) k) := hu
  have HOK : Hid (∀ e ∈ L, KeyK base w e.v e.k) := hok
  have HR : Hid (∀ (i j : Nat) (x y : Key), i < j → (keysOf L)[i]? = some x → (keysOf L)[j]? = some y → x < y) := fun i j x y hij hx hy => by
    obtain ⟨l1, e1⟩ := List.getElem?_eq_some_iff.1 hx
    obtain ⟨l2, e2⟩ := List.getElem?_eq_some_iff.1 hy
    have := List.pairwise_iff_getElem.1 hr i j l1 l2 hij
    rw [e1, e2] at this
    exact this
  clear hL hu hok hr
  go_enter Try.func42, Try.ntmps42
  go_wp2_with fail
  go_loopw [9, 10] (fun vi vj wx => ∃ i j : Nat, i ≤ j ∧ j ≤ L.length ∧ vi = .int .i64 i ∧ vj = .int .i64 j ∧ (∀ n x, n < i → (keysOf L)[n]? = some x → x < k) ∧ (∀ n x, j ≤ n → (keysOf L)[n]? = some x → ¬ x < k) ∧ ∃ q, wx = w.drewN q) (fun vi vj _ => (intOf vj).toNat - (intOf vi).toNat)
  case atStart => exact ⟨0, L.length, by omega, Nat.le_refl _, rfl, rfl, fun n x h => absurd h (Nat.not_lt_zero _), fun n x hn hx => by have := (List.getElem?_eq_some_iff.1 hx).1; rw [keysOf_length] at this; omega, 0, rfl⟩
  case round =>
    obtain ⟨i, j, hij, hjl, rfl, rfl, hlo, hhi, q, rfl⟩ := hrel
    have HLO : Hid _ := hlo
    have HHI : Hid _ := hhi
    clear hlo hhi
    by_cases hlt : i < j
    · have hz : (i : Int) < (j : Int) := by omega
      obtain ⟨h, hh⟩ : ∃ h : Nat, h = (i + j) / 2 := ⟨_, rfl⟩
      have hh1 : ((i : Int) + (j : Int)) / 2 = (h : Int) := by omega
      have hh2 : h < j := by omega
      have hh3 : i ≤ h := by omega
      have hh4 : (h : Int) < (L.length : Int) := by omega
      obtain ⟨e, he⟩ : ∃ e, L[h]? = some e := ⟨_, List.getElem?_eq_getElem (by omega)⟩
      obtain ⟨g, _, e1, k0⟩ := HL.out.cell he
      cases e1
      have HC := compare_key (((HOK.out e (List.mem_of_getElem? he)).at hb).draws q) (HU.out.draws q)
      have HE : Hid ((keysOf L)[h]? = some e.k) := keysOf_get he
      clear hh he
      by_cases hk : e.k < k
      · have hcz : cmpK e.k k < 0 := cmpK_lt.2 hk
        have HLO2 : Hid (∀ n x, n < h + 1 → (keysOf L)[n]? = some x → x < k) := fun n x hn hx => by
          by_cases hnh : n = h
          · rw [hnh, HE.out] at hx; cases hx; exact hk
          · have h1 := HR.out n h x e.k (by omega) hx HE.out
            grind
        clear hk
        go_wp2_with (go_at_call 37; refine HC.mono ?_; rintro r w' ⟨rfl, q', rfl⟩)
        exact ⟨⟨h + 1, j, by omega, hjl, by go_num, rfl, HLO2.out, HHI.out, q + q', rfl⟩, by simp [intOf]; omega⟩
      · have hcz : ¬ cmpK e.k k < 0 := fun h => hk (cmpK_lt.1 h)
        have HHI2 : Hid (∀ n x, h ≤ n → (keysOf L)[n]? = some x → ¬ x < k) := fun n x hn hx => by
          by_cases hnh : n = h
          · rw [hnh, HE.out] at hx; cases hx; exact hk
          · have h1 := HR.out h n e.k x (by omega) HE.out hx
            grind
        clear hk
        go_wp2_with (go_at_call 37; refine HC.mono ?_; rintro r w' ⟨rfl, q', rfl⟩)
        exact ⟨⟨i, h, by omega, by omega, rfl, by go_num, HLO.out, HHI2.out, q + q', rfl⟩, by simp [intOf]; omega⟩
    · have hz : ¬ (i : Int) < (j : Int) := by omega
      obtain rfl : i = j := by omega
      have HF : Hid (Place (keysOf L) k i) := ⟨by rw [keysOf_length]; exact hjl, HLO.out, HHI.out⟩
      by_cases hil : i < L.length
      · have hiz : (i : Int) < (L.length : Int) := by omega
        obtain ⟨e, he⟩ : ∃ e, L[i]? = some e := ⟨_, List.getElem?_eq_getElem hil⟩
        obtain ⟨g, _, e1, k0⟩ := HL.out.cell he
        cases e1
        have HC := compare_key (((HOK.out e (List.mem_of_getElem? he)).at hb).draws q) (HU.out.draws q)
        clear he
        go_wp2_with fail
        refine HC.mono ?_
        rintro r w' ⟨rfl, q', rfl⟩
        go_wp2
        go_ret2
        exact ⟨i, _, rfl, HF.out, q + q', by first | rfl | rw [draws_add]⟩
      · have hiz : ¬ (i : Int) < (L.length : Int) := by omega
        go_wp2_with fail
        go_ret2
        exact ⟨i, false, rfl, HF.out, q, rfl⟩

set_option maxHeartbeats 1600000 in
set_option maxRecDepth 100000 in
theorem mul64_one (w : World) (n : Nat) (hn : n < 4611686018427387904) :
    Calls Try.prog 64 #[.int .u64 1, .int .u64 (n : Int)] w fun r w' => r = .returned (.tuple #[.int .u64 0, .int .u64 (n : Int)]) ∧ w' = w := by
  obtain ⟨Y, hY⟩ : ∃ Y : Nat, Y = n % 4294967296 := ⟨_, rfl⟩
  obtain ⟨Z, hZ⟩ : ∃ Z : Nat, Z = n / 4294967296 := ⟨_, rfl⟩
  have hY2 : Y < 4294967296 := by omega
  have hZ2 : Z < 4294967296 := by omega
  have h1 : bits BinOp.and IntKind.u64 (n : Int) 4294967295 = (Y : Int) := by
    have := bits_and_u64_nat n 4294967295 (by omega) (by omega)
    rw [show ((4294967295 : Nat) : Int) = 4294967295 from rfl] at this
    rw [this, hY, show (4294967295 : Nat) = 2 ^ 32 - 1 from rfl, Nat.and_two_pow_sub_one_eq_mod]
  have h2 : (n : Int) / 4294967296 = (Z : Int) := by omega
  have h3 : bits BinOp.and IntKind.u64 1 4294967295 = 1 := by decide +kernel
  have h4 : bits BinOp.and IntKind.u64 0 4294967295 = 0 := by decide +kernel
  have h5 : (Y : Int) / 4294967296 = 0 := by omega
  have h6 : (Z : Int) / 4294967296 = 0 := by omega
  clear hY hZ
  go_enter Try.func64, Try.ntmps64
  go_wp2
  go_ret2
  exact ⟨rfl, rfl⟩
end Go.Proofs.Ytkjjgbaoicjbaab
