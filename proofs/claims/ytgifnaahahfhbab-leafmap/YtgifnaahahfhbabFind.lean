/- Find, of entries that rise. -/
import Derived.Test.YtgifnaahahfhbabAnew
namespace Go.Proofs.Ytgifnaahahfhbab
open Go.RowKit

/-- Where a key is, or would be. -/
structure FindAt (l : List En) (k : Key) (p : Nat) (b : Bool) : Prop where
  le : p ≤ l.length
  lt : ∀ i e, i < p → l[i]? = some e → e.k < k
  ge : ∀ i e, p ≤ i → l[i]? = some e → ¬ e.k < k
  is : b = true ↔ ∃ e, l[p]? = some e ∧ e.k = k
/-- What a search leaves. -/
structure FoundPost (w : World) (l : List En) (k : Key) (r : Ending) (w' : World) : Prop where
  is : ∃ p b, r = .returned (.tuple #[.int .i64 (p : Nat), .bool b]) ∧ FindAt l k p b ∧ Below w.heap.size w w'
/-- The keys rise. -/
def RisenE (l : List En) : Prop := ∀ (i j : Nat) (x y : En), i < j → l[i]? = some x → l[j]? = some y → x.k < y.k

set_option maxRecDepth 100000 in
theorem cmpFn_any {w : World} {v u : Value} {e : En} {k : Key} (h : EntAt w v e) (hu : KeyAt w u k) :
    Calls Try.prog 33 #[v, u] w fun r w' => r = .returned (.int .i64 (cmpK e.k k)) ∧ Below w.heap.size w w' := by
  obtain ⟨v1, v2, rfl, h1, h2⟩ := h.is
  have HB : Hid (Below w.heap.size w (w.alloc (.cells #[v1, v2] 25))) := below_new _ _
  have HC := compare_key (h1.here HB.out) (hu.here HB.out)
  obtain ⟨a1, c1, rfl⟩ := h1.in.form
  obtain ⟨a2, c2, rfl⟩ := h2.in.form
  clear h h1 h2 hu
  go_enter Try.func33, Try.ntmps33
  go_wp2_with (go_at_call 34; refine HC.mono ?_; rintro r w' ⟨rfl, q, rfl⟩)
  go_ret
  exact ⟨rfl, below_draws HB.out q⟩

set_option maxHeartbeats 1600000 in
set_option maxRecDepth 100000 in
theorem search_any {w : World} {v u : Value} {L : List It} {k : Key} (hL : ListAt w.heap.size w v L) (hu : KeyAt w u k) (hr : RisenE (L.map It.e)) :
    Calls Try.prog 32 #[v, u, .func (.func 33) #[] #[]] w fun r w' => FoundPost w (L.map It.e) k r w' := by
  have hsh := hL.short
  obtain ⟨a, c, rfl⟩ := hL.form
  obtain ⟨au, cu, rfl⟩ := hu.in.form
  have HL : Hid (ListAt w.heap.size w (.slice a L.length c) L) := hL
  have HU : Hid (KeyAt w (.slice au k.length cu) k) := hu
  have HR : Hid (RisenE (L.map It.e)) := hr
  clear hL hu hr
  go_enter Try.func32, Try.ntmps32
  go_wp2_with fail
  go_loopw [9, 10] (fun vi vj wx => ∃ i j : Nat, i ≤ j ∧ j ≤ L.length ∧ vi = .int .i64 i ∧ vj = .int .i64 j ∧ (∀ n x, n < i → (L.map It.e)[n]? = some x → x.k < k) ∧ (∀ n x, j ≤ n → (L.map It.e)[n]? = some x → ¬ x.k < k) ∧ Below w.heap.size w wx) (fun vi vj _ => (intOf vj).toNat - (intOf vi).toNat)
  case atStart => exact ⟨0, L.length, by omega, Nat.le_refl _, rfl, rfl, fun n x h => absurd h (Nat.not_lt_zero _), fun n x hn hx => by have := (List.getElem?_eq_some_iff.1 hx).1; simp at this; omega, Below.refl _ _⟩
  case round =>
    obtain ⟨i, j, hij, hjl, rfl, rfl, hlo, hhi, hbw⟩ := hrel
    have HLO : Hid _ := hlo
    have HHI : Hid _ := hhi
    have HBW : Hid (Below w.heap.size w wr) := hbw
    clear hlo hhi hbw
    by_cases hlt : i < j
    · have hz : (i : Int) < (j : Int) := by omega
      obtain ⟨h, hh⟩ : ∃ h : Nat, h = (i + j) / 2 := ⟨_, rfl⟩
      have hh1 : ((i : Int) + (j : Int)) / 2 = (h : Int) := by omega
      have hh2 : h < j := by omega
      have hh3 : i ≤ h := by omega
      have hh4 : (h : Int) < (L.length : Int) := by omega
      obtain ⟨e, he⟩ : ∃ e, L[h]? = some e := ⟨_, List.getElem?_eq_getElem (by omega)⟩
      have hL := HL.out.here HBW.out
      obtain ⟨g, off, _, e1, k0, k1⟩ := hL.cells h e he
      cases e1
      have HC := cmpFn_any (hL.ok e (List.mem_of_getElem? he)).ent (HU.out.here HBW.out)
      have HE : Hid ((L.map It.e)[h]? = some e.e) := ents_get he
      clear hh he hL
      by_cases hk : e.e.k < k
      · have hcz : cmpK e.e.k k < 0 := cmpK_lt.2 hk
        have HLO2 : Hid (∀ n x, n < h + 1 → (L.map It.e)[n]? = some x → x.k < k) := fun n x hn hx => by
          by_cases hnh : n = h
          · rw [hnh, HE.out] at hx; cases hx; exact hk
          · have h1 := HR.out n h x e.e (by omega) hx HE.out
            grind
        clear hk
        go_wp2_with (go_at_call 33; refine HC.mono ?_; rintro r w' ⟨rfl, hb⟩
                     have HB : Hid (Below wr.heap.size wr w') := hb
                     clear hb)
        exact ⟨⟨h + 1, j, by omega, hjl, by go_num, rfl, HLO2.out, HHI.out, HBW.out.trans (HB.out.mono HBW.out.size)⟩, by simp [intOf]; omega⟩
      · have hcz : ¬ cmpK e.e.k k < 0 := fun h => hk (cmpK_lt.1 h)
        have HHI2 : Hid (∀ n x, h ≤ n → (L.map It.e)[n]? = some x → ¬ x.k < k) := fun n x hn hx => by
          by_cases hnh : n = h
          · rw [hnh, HE.out] at hx; cases hx; exact hk
          · have h1 := HR.out h n e.e x (by omega) HE.out hx
            grind
        clear hk
        go_wp2_with (go_at_call 33; refine HC.mono ?_; rintro r w' ⟨rfl, hb⟩
                     have HB : Hid (Below wr.heap.size wr w') := hb
                     clear hb)
        exact ⟨⟨i, h, by omega, by omega, rfl, by go_num, HLO.out, HHI2.out, HBW.out.trans (HB.out.mono HBW.out.size)⟩, by simp [intOf]; omega⟩
    · have hz : ¬ (i : Int) < (j : Int) := by omega
      obtain rfl : i = j := by omega
      by_cases hil : i < L.length
      · have hiz : (i : Int) < (L.length : Int) := by omega
        obtain ⟨e, he⟩ : ∃ e, L[i]? = some e := ⟨_, List.getElem?_eq_getElem hil⟩
        have hL := HL.out.here HBW.out
        obtain ⟨g, off, _, e1, k0, k1⟩ := hL.cells i e he
        cases e1
        have HC0 := cmpFn_any (hL.ok e (List.mem_of_getElem? he)).ent (HU.out.here HBW.out)
        have HF : Hid (FindAt (L.map It.e) k i (cmpK e.e.k k == 0)) := ⟨by simp; exact hjl, HLO.out, HHI.out, by
          rw [beq_iff_eq, cmpK_eq]
          constructor
          · intro h; exact ⟨e.e, ents_get he, h⟩
          · rintro ⟨x, hx, h⟩; rw [ents_get he] at hx; cases hx; exact h⟩
        clear he hL
        go_wp2_with fail
        refine HC0.mono ?_
        rintro r w' ⟨rfl, hb⟩
        have HB : Hid (Below wr.heap.size wr w') := hb
        clear hb HC0
        go_wp2
        go_ret2
        exact ⟨i, _, rfl, HF.out, HBW.out.trans (HB.out.mono HBW.out.size)⟩
      · have hiz : ¬ (i : Int) < (L.length : Int) := by omega
        have HF : Hid (FindAt (L.map It.e) k i false) := ⟨by simp; exact hjl, HLO.out, HHI.out, by
          constructor
          · intro h; cases h
          · rintro ⟨x, hx, _⟩; have := (List.getElem?_eq_some_iff.1 hx).1; simp at this; omega⟩
        go_wp2_with fail
        go_ret2
        exact ⟨i, false, rfl, HF.out, HBW.out⟩

set_option maxHeartbeats 800000 in
set_option maxRecDepth 100000 in
theorem find_any {w : World} {v u : Value} {L : List It} {k : Key} (hL : ListAt w.heap.size w v L) (hu : KeyAt w u k) (hr : RisenE (L.map It.e)) :
    Calls Try.prog 17 #[v, u] w fun r w' => FoundPost w (L.map It.e) k r w' := by
  have HS := search_any hL hu hr
  have hmf : ∀ (fn : Fn) (first cap : Array Value) (w : World), (Instr.makeFunc fn first cap).run Try.prog w = .ok (.func fn first cap) w := fun _ _ _ _ => rfl
  clear hL hu hr
  go_enter Try.func17, Try.ntmps17
  go_wp2_with fail
  refine HS.mono ?_
  rintro r w' ⟨p, b, rfl, hf, hb⟩
  have HF : Hid _ := hf
  have HB : Hid _ := hb
  clear hf hb HS
  go_wp2
  go_ret2
  exact ⟨p, b, rfl, HF.out, HB.out⟩
end Go.Proofs.Ytgifnaahahfhbab
