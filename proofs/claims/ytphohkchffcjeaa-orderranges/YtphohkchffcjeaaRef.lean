/- The document's answers for keys: Compare, Less, Same, Common, Copy, Next, Between of banyanref04. -/
import Derived.Test.YtphohkchffcjeaaNear
namespace Go.Proofs.Ytphohkchffcjeaa
open Go.RowKit

set_option maxHeartbeats 800000 in
set_option maxRecDepth 100000 in
theorem refCommon_key {w : World} {u v : Value} {x y : Key} (hu : KeyAt w u x) (hv : KeyAt w v y) :
    Calls Try.prog 34 #[u, v] w fun e w' => e = .returned (.int .i64 (comK x y : Int)) ∧ ∃ q, w' = w.drewN q := by
  obtain ⟨⟨a, ca, rfl, hx, _⟩, lx⟩ := hu
  obtain ⟨⟨b, cb, rfl, hy, _⟩, ly⟩ := hv
  have HX : Hid (BytesAt w.heap.size w a x) := hx
  have HY : Hid (BytesAt w.heap.size w b y) := hy
  clear hx hy
  go_enter Try.func34, Try.ntmps34
  go_wp2
  go_loopw [5] (fun i wx => ∃ k : Nat, k ≤ x.length ∧ k ≤ y.length ∧ i = .int .i64 k ∧ x.take k = y.take k ∧ ∃ q, wx = w.drewN q) (fun i _ => x.length - (intOf i).toNat)
  case atStart => exact ⟨0, by omega, by omega, rfl, by simp, 0, rfl⟩
  case round =>
    obtain ⟨k, hkx, hky, rfl, ht, q, rfl⟩ := hrel
    have HT : Hid (x.take k = y.take k) := ht
    clear ht
    by_cases h1 : k < x.length
    · have h1z : (k : Int) < (x.length : Int) := by omega
      by_cases h2 : k < y.length
      · have h2z : (k : Int) < (y.length : Int) := by omega
        obtain ⟨c, hc⟩ : ∃ c, x[k]? = some c := ⟨x[k]'(by omega), List.getElem?_eq_getElem (by omega)⟩
        obtain ⟨d, hd⟩ : ∃ d, y[k]? = some d := ⟨y[k]'(by omega), List.getElem?_eq_getElem (by omega)⟩
        obtain ⟨g, off, rfl, hg, hcell⟩ := HX.out k c hc
        obtain ⟨g', off', rfl, hg', hcell'⟩ := HY.out k d hd
        have HC : Hid (x[k]? = some c) := hc
        have HD : Hid (y[k]? = some d) := hd
        clear hc hd
        by_cases e : c = d
        · subst e
          go_wp2_with fail
          go_quiet (fail)
          go_wp2
          exact ⟨⟨k + 1, by omega, by omega, by go_num, take_same HT.out HC.out HD.out, _, by first | rfl | exact draws_add _ _ _ | rw [draws_add, draws_add]⟩, by simp [intOf]; omega⟩
        · have hne := byte_ne e
          have HE : Hid (comK x y = k) := com_here HT.out HC.out HD.out e
          obtain ⟨m, rfl⟩ : ∃ m, m = k := ⟨_, by first | rfl | exact draws_add _ _ _ | rw [draws_add, draws_add]⟩
          go_wp2_with fail
          go_quiet (fail)
          go_wp2
          go_ret
          exact ⟨by rw [HE.out]; first | rfl | exact ret_int (by omega), _, by first | rfl | exact draws_add _ _ _ | rw [draws_add, draws_add]⟩
      · have h2z : ¬ (k : Int) < (y.length : Int) := by omega
        have HE : Hid (comK x y = k) := com_end HT.out hkx hky (by omega)
        obtain ⟨m, rfl⟩ : ∃ m, m = k := ⟨_, by first | rfl | exact draws_add _ _ _ | rw [draws_add, draws_add]⟩
        go_wp2_with fail
        go_quiet (fail)
        go_wp2
        go_ret
        exact ⟨by rw [HE.out]; first | rfl | exact ret_int (by omega), _, by first | rfl | exact draws_add _ _ _ | rw [draws_add, draws_add]⟩
    · have h1z : ¬ (k : Int) < (x.length : Int) := by omega
      have HE : Hid (comK x y = k) := com_end HT.out hkx hky (by omega)
      obtain ⟨m, rfl⟩ : ∃ m, m = k := ⟨_, by first | rfl | exact draws_add _ _ _ | rw [draws_add, draws_add]⟩
      go_wp2_with fail
      go_quiet (fail)
      go_wp2
      go_ret
      exact ⟨by rw [HE.out]; first | rfl | exact ret_int (by omega), _, by first | rfl | exact draws_add _ _ _ | rw [draws_add, draws_add]⟩

theorem cmp_here {x y : Key} {k : Nat} {c d : UInt8} (h : x.take k = y.take k) (hx : x[k]? = some c) (hy : y[k]? = some d) (hlt : c < d) : cmpK x y = -1 := by
  have hk := com_here h hx hy (by grind)
  obtain ⟨h1, rfl⟩ := List.getElem?_eq_some_iff.1 hx
  obtain ⟨h2, rfl⟩ := List.getElem?_eq_some_iff.1 hy
  subst hk
  rw [cmpK_lt_one]
  exact (lt_iff_com x y).2 (.inr ⟨h1, h2, hlt⟩)
theorem cmp_there {x y : Key} {k : Nat} {c d : UInt8} (h : x.take k = y.take k) (hx : x[k]? = some c) (hy : y[k]? = some d) (hlt : d < c) : cmpK x y = 1 := by
  have := cmp_here h.symm hy hx hlt
  rw [cmpK_neg, this]
  rfl
theorem cmp_left {x y : Key} (h : x.take x.length = y.take x.length) (hl : x.length < y.length) : cmpK x y = -1 := by
  rw [cmpK_lt_one]
  exact (lt_iff_com x y).2 (.inl (by have := com_end h (Nat.le_refl _) (by omega) (.inl rfl); omega))
theorem cmp_right {x y : Key} (h : x.take y.length = y.take y.length) (hl : y.length < x.length) : cmpK x y = 1 := by
  have := cmp_left h.symm hl
  rw [cmpK_neg, this]
  rfl
theorem cmp_same {x y : Key} (h : x.take x.length = y.take x.length) (hl : x.length = y.length) : cmpK x y = 0 := by
  rw [cmpK_eq]
  rw [List.take_length, hl, List.take_length] at h
  exact h

set_option maxHeartbeats 800000 in
set_option maxRecDepth 100000 in
theorem refCompare_key {w : World} {u v : Value} {x y : Key} (hu : KeyAt w u x) (hv : KeyAt w v y) :
    Calls Try.prog 33 #[u, v] w fun e w' => e = .returned (.int .i64 (cmpK x y)) ∧ ∃ q, w' = w.drewN q := by
  obtain ⟨⟨a, ca, rfl, hx, _⟩, lx⟩ := hu
  obtain ⟨⟨b, cb, rfl, hy, _⟩, ly⟩ := hv
  have HX : Hid (BytesAt w.heap.size w a x) := hx
  have HY : Hid (BytesAt w.heap.size w b y) := hy
  clear hx hy
  by_cases hyx : y.length < x.length
  all_goals
    go_enter Try.func33, Try.ntmps33
    go_wp2
    go_loopw [6] (fun i wx => ∃ k : Nat, k ≤ x.length ∧ k ≤ y.length ∧ i = .int .i64 k ∧ x.take k = y.take k ∧ ∃ q, wx = w.drewN q) (fun i _ => x.length - (intOf i).toNat)
    case atStart => exact ⟨0, by omega, by omega, rfl, by simp, 0, rfl⟩
    case round =>
      obtain ⟨k, hkx, hky, rfl, ht, q, rfl⟩ := hrel
      have HT : Hid (x.take k = y.take k) := ht
      clear ht
      by_cases hlt : k < x.length ∧ k < y.length
      · obtain ⟨h1, h2⟩ := hlt
        have h1z : (k : Int) < (x.length : Int) := by omega
        have h2z : (k : Int) < (y.length : Int) := by omega
        obtain ⟨c, hc⟩ : ∃ c, x[k]? = some c := ⟨x[k]'(by omega), List.getElem?_eq_getElem (by omega)⟩
        obtain ⟨d, hd⟩ : ∃ d, y[k]? = some d := ⟨y[k]'(by omega), List.getElem?_eq_getElem (by omega)⟩
        obtain ⟨g, off, rfl, hg, hcell⟩ := HX.out k c hc
        obtain ⟨g', off', rfl, hg', hcell'⟩ := HY.out k d hd
        have HC : Hid (x[k]? = some c) := hc
        have HD : Hid (y[k]? = some d) := hd
        clear hc hd
        by_cases hcd : c < d
        · have HR : Hid (cmpK x y = -1) := cmp_here HT.out HC.out HD.out hcd
          have hz : (c.toNat : Int) < (d.toNat : Int) := by have := UInt8.lt_iff_toNat_lt.1 hcd; omega
          have hz' : c.toNat < d.toNat := by omega
          go_wp2_with fail
          go_quiet (fail)
          go_wp2
          go_ret
          exact ⟨by rw [HR.out]; rfl, _, by first | rfl | exact draws_add _ _ _ | rw [draws_add, draws_add]⟩
        · have hz : ¬ (c.toNat : Int) < (d.toNat : Int) := fun h => hcd (UInt8.lt_iff_toNat_lt.2 (by omega))
          have hz' : ¬ c.toNat < d.toNat := by omega
          by_cases hdc : d < c
          · have HR : Hid (cmpK x y = 1) := cmp_there HT.out HC.out HD.out hdc
            have hy : (d.toNat : Int) < (c.toNat : Int) := by have := UInt8.lt_iff_toNat_lt.1 hdc; omega
            have hy' : d.toNat < c.toNat := by omega
            go_wp2_with fail
            go_quiet (fail)
            go_wp2_with fail
            go_quiet (fail)
            go_wp2
            go_ret
            exact ⟨by rw [HR.out]; rfl, _, by first | rfl | exact draws_add _ _ _ | rw [draws_add, draws_add]⟩
          · have e : c = d := by grind
            subst e
            clear hcd hdc
            go_wp2_with fail
            go_quiet (fail)
            go_wp2_with fail
            go_quiet (fail)
            go_wp2
            exact ⟨⟨k + 1, by omega, by omega, by go_num, take_same HT.out HC.out HD.out, _, by first | rfl | exact draws_add _ _ _ | rw [draws_add, draws_add]⟩, by simp [intOf]; omega⟩
      · by_cases hxy : x.length < y.length
        · first
            | (exfalso; omega)
            | (obtain rfl : k = x.length := by omega
               have HR : Hid (cmpK x y = -1) := cmp_left HT.out hxy
               go_wp2
               go_ret
               exact ⟨by rw [HR.out]; rfl, q, rfl⟩)
        · by_cases hxy2 : y.length < x.length
          · first
              | (exfalso; omega)
              | (obtain rfl : k = y.length := by omega
                 have HR : Hid (cmpK x y = 1) := cmp_right HT.out hxy2
                 go_wp2
                 go_ret
                 exact ⟨by rw [HR.out]; rfl, q, rfl⟩)
          · first
              | (exfalso; omega)
              | (have hxe : x.length = y.length := by omega
                 obtain rfl : k = x.length := by omega
                 have HR : Hid (cmpK x y = 0) := cmp_same HT.out hxe
                 go_wp2
                 go_ret
                 exact ⟨by rw [HR.out]; rfl, q, rfl⟩)

end Go.Proofs.Ytphohkchffcjeaa
