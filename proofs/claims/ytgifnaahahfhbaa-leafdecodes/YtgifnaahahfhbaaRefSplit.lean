/- The document's common, entry, entries, Bytes, sized, Split. -/
import Derived.Test.YtgifnaahahfhbaaSplit
import Derived.Test.YtgifnaahahfhbaaCut
namespace Go.Proofs.Ytgifnaahahfhbaa
open Go.RowKit

set_option maxHeartbeats 800000 in
set_option maxRecDepth 100000 in
theorem refCommon_key {w : World} {u v : Value} {x y : Key} (hu : KeyAt w u x) (hv : KeyAt w v y) :
    Calls Try.prog 59 #[u, v] w fun e w' => e = .returned (.int .i64 (comK x y : Int)) ∧ ∃ q, w' = w.drewN q := by
  obtain ⟨⟨a, ca, rfl, hx, _⟩, lx⟩ := hu
  obtain ⟨⟨b, cb, rfl, hy, _⟩, ly⟩ := hv
  have HX : Hid (BytesAt w.heap.size w a x) := hx
  have HY : Hid (BytesAt w.heap.size w b y) := hy
  clear hx hy
  go_enter Try.func59, Try.ntmps59
  go_wp2
  go_loopw [5] (fun i wx => ∃ k : Nat, k ≤ x.length ∧ k ≤ y.length ∧ i = .int .i64 k ∧ x.take k = y.take k ∧ ∃ q, wx = w.drewN q) (fun i _ => x.length - (intOf i).toNat)
  case atStart => exact ⟨0, by omega, by omega, rfl, by simp, 0, rfl⟩
  case round =>
    obtain ⟨k, hkx, hky, rfl, ht, q, rfl⟩ := hrel
    have HT : Hid (x.take k = y.take k) := ht
    clear ht
    by_cases h1 : k < x.length
    · have h1z : (k : Int) < (x.length : Int) := by omega
      by_cases h2 : k < y.length
      · have h2z : (k : Int) < (y.length : Int) := by omega
        obtain ⟨c, hc⟩ : ∃ c, x[k]? = some c := ⟨x[k]'(by omega), List.getElem?_eq_getElem (by omega)⟩
        obtain ⟨d, hd⟩ : ∃ d, y[k]? = some d := ⟨y[k]'(by omega), List.getElem?_eq_getElem (by omega)⟩
        obtain ⟨g, off, rfl, hg, hcell⟩ := HX.out k c hc
        obtain ⟨g', off', rfl, hg', hcell'⟩ := HY.out k d hd
        have HC : Hid (x[k]? = some c) := hc
        have HD : Hid (y[k]? = some d) := hd
        clear hc hd
        by_cases e : c = d
        · subst e
          go_wp2_with fail
          go_quiet (fail)
          go_wp2
          exact ⟨⟨k + 1, by omega, by omega, by go_num, take_same HT.out HC.out HD.out, _, by first | rfl | exact draws_add _ _ _ | rw [draws_add, draws_add]⟩, by simp [intOf]; omega⟩
        · have hne := byte_ne e
          have HE : Hid (comK x y = k) := com_here HT.out HC.out HD.out e
          obtain ⟨m, rfl⟩ : ∃ m, m = k := ⟨_, by first | rfl | exact draws_add _ _ _ | rw [draws_add, draws_add]⟩
          go_wp2_with fail
          go_quiet (fail)
          go_wp2
          go_ret
          exact ⟨by rw [HE.out]; first | rfl | exact ret_int (by omega), _, by first | rfl | exact draws_add _ _ _ | rw [draws_add, draws_add]⟩
      · have h2z : ¬ (k : Int) < (y.length : Int) := by omega
        have HE : Hid (comK x y = k) := com_end HT.out hkx hky (by omega)
        obtain ⟨m, rfl⟩ : ∃ m, m = k := ⟨_, by first | rfl | exact draws_add _ _ _ | rw [draws_add, draws_add]⟩
        go_wp2_with fail
        go_quiet (fail)
        go_wp2
        go_ret
        exact ⟨by rw [HE.out]; first | rfl | exact ret_int (by omega), _, by first | rfl | exact draws_add _ _ _ | rw [draws_add, draws_add]⟩
    · have h1z : ¬ (k : Int) < (x.length : Int) := by omega
      have HE : Hid (comK x y = k) := com_end HT.out hkx hky (by omega)
      obtain ⟨m, rfl⟩ : ∃ m, m = k := ⟨_, by first | rfl | exact draws_add _ _ _ | rw [draws_add, draws_add]⟩
      go_wp2_with fail
      go_quiet (fail)
      go_wp2
      go_ret
      exact ⟨by rw [HE.out]; first | rfl | exact ret_int (by omega), _, by first | rfl | exact draws_add _ _ _ | rw [draws_add, draws_add]⟩

set_option maxRecDepth 100000 in
theorem refSized_any (w : World) (z : Int) : Calls Try.prog 45 #[.int .i64 z] w fun r w' => r = .returned (.bool (decide (Sized z))) ∧ ∃ q, w' = w.drewN q := by
  by_cases h : Sized z
  · rw [decide_eq_true h]
    rcases h with rfl | rfl | rfl | rfl
    all_goals
      go_enter Try.func45, Try.ntmps45
      go_wp2
      go_ret
      exact ⟨rfl, 0, rfl⟩
  · rw [decide_eq_false h]
    have h1 : (z == 512) = false := by rw [beq_eq_false_iff_ne]; intro e; exact h (.inl e)
    have h2 : (z == 1024) = false := by rw [beq_eq_false_iff_ne]; intro e; exact h (.inr (.inl e))
    have h3 : (z == 2048) = false := by rw [beq_eq_false_iff_ne]; intro e; exact h (.inr (.inr (.inl e)))
    have h4 : (z == 4096) = false := by rw [beq_eq_false_iff_ne]; intro e; exact h (.inr (.inr (.inr e)))
    clear h
    go_enter Try.func45, Try.ntmps45
    go_wp2
    go_ret
    exact ⟨rfl, 0, rfl⟩

set_option maxHeartbeats 1600000 in
set_option maxRecDepth 100000 in
theorem refEntry_any {w : World} {v : Value} {L : List It} {i s : Nat} {e : It} (hs : s = 512 ∨ s = 1024 ∨ s = 2048 ∨ s = 4096) (hL : ListAt w.heap.size w v L) (hi : L[i]? = some e) :
    Calls Try.prog 69 #[.int .i64 s, v, .int .i64 i] w fun r w' => r = .returned (.int .i64 (faultAt s (prevK (L.map It.e) i) e.e : Nat)) ∧ ∃ q, w' = w.drewN q := by
  have hlen := (List.getElem?_eq_some_iff.1 hi).1
  have hsh := hL.short
  have hn3 : (i : Int) < (L.length : Int) := by omega
  have hd1 : (s : Int).tdiv 16 = ((s / 16 : Nat) : Int) := by rcases hs with rfl | rfl | rfl | rfl <;> rfl
  have hd2 : (s : Int).tdiv 4 = ((s / 4 : Nat) : Int) := by rcases hs with rfl | rfl | rfl | rfl <;> rfl
  have hsz : s ≤ 4096 := by omega
  have heo := hL.ok e (List.mem_of_getElem? hi)
  have hs1 := heo.k.short
  have hs2 := heo.v.short
  obtain ⟨a1, c1, f1⟩ := heo.k.form
  obtain ⟨a2, c2, f2⟩ := heo.v.form
  obtain ⟨g, off, c, rfl, k0, k1⟩ := hL.cells i e hi
  rw [f1] at k0
  rw [f2] at k1
  have HL : Hid (ListAt w.heap.size w (.slice (some ⟨g, off, none⟩) L.length c) L) := hL
  have HE : Hid (KeyAt w (.slice a1 e.e.k.length c1) e.e.k) := by have := heo.k.at (Nat.le_refl _); rw [f1] at this; exact this
  have HI : Hid (L[i]? = some e) := hi
  clear hs heo f1 f2 hL hi
  by_cases h1 : e.e.k.length = 0
  · have h1z : (e.e.k.length : Int) < 1 := by omega
    have HR : Hid (faultAt s (prevK (L.map It.e) i) e.e = 51) := by simp [Hid, faultAt, h1]
    clear h1
    go_enter Try.func69, Try.ntmps69
    go_wp2_with fail
    go_ret
    exact ⟨by rw [HR.out]; rfl, 0, rfl⟩
  · have h1z : ¬ (e.e.k.length : Int) < 1 := by omega
    by_cases h2 : s / 16 < e.e.k.length
    · have h2z : (s : Int) / 16 < (e.e.k.length : Int) := by omega
      have HR : Hid (faultAt s (prevK (L.map It.e) i) e.e = 51) := by simp [Hid, faultAt, h2]
      clear h1
      go_enter Try.func69, Try.ntmps69
      go_wp2_with fail
      go_ret
      exact ⟨by rw [HR.out]; rfl, 0, rfl⟩
    · have h2z : ¬ (s : Int) / 16 < (e.e.k.length : Int) := by omega
      by_cases h3 : s / 4 < e.e.v.length
      · have h3z : (s : Int) / 4 < (e.e.v.length : Int) := by omega
        have HR : Hid (faultAt s (prevK (L.map It.e) i) e.e = 52) := by simp only [Hid, faultAt]; rw [if_neg (by omega), if_pos h3]
        clear h1
        go_enter Try.func69, Try.ntmps69
        go_wp2_with fail
        go_ret
        exact ⟨by rw [HR.out]; rfl, 0, rfl⟩
      · have h3z : ¬ (s : Int) / 4 < (e.e.v.length : Int) := by omega
        have HFP : Hid (faultAt s (prevK (L.map It.e) i) e.e = if prevK (L.map It.e) i < e.e.k then 0 else 53) := by
          simp only [Hid, faultAt]; rw [if_neg (by omega), if_neg h3]
        by_cases hk0 : i = 0
        · have HR : Hid (faultAt s (prevK (L.map It.e) i) e.e = 0) := by
            rw [Hid, HFP.out, hk0, prevK_zero]
            have : ([] : Key) < e.e.k := by
              cases h : e.e.k with
              | nil => simp [h] at h1
              | cons x r => simp
            simp [this]
          have hi0 : ¬ (0 : Int) < (i : Int) := by omega
          have hi1 : ¬ 0 < i := by omega
          have hi2 : decide (0 < i) = false := decide_eq_false hi1
          clear h1 hk0
          go_enter Try.func69, Try.ntmps69
          go_wp2_with fail
          go_quiet (fail)
          go_wp2
          go_ret
          exact ⟨by rw [HR.out]; rfl, _, rfl⟩
        · obtain ⟨j, hj⟩ : ∃ j : Nat, i = j + 1 := ⟨i - 1, by omega⟩
          have hn1 : (i : Int) - 1 = (j : Int) := by omega
          have hn2 : (j : Int) < (L.length : Int) := by omega
          have hi0 : (0 : Int) < (i : Int) := by omega
          have hi1 : 0 < i := by omega
          have hi2 : decide (0 < i) = true := decide_eq_true hi1
          obtain ⟨x, hx⟩ : ∃ x, L[j]? = some x := ⟨L[j]'(by omega), List.getElem?_eq_getElem _⟩
          have HP : Hid (prevK (L.map It.e) i = x.e.k) := by rw [Hid, hj]; exact prevK_succ (ents_get hx)
          obtain ⟨_, _, _, e1, m0, m1⟩ := HL.out.cells j x hx
          cases e1
          have HX : Hid (KeyAt w x.v1 x.e.k) := (HL.out.ok x (List.mem_of_getElem? hx)).k.at (Nat.le_refl _)
          have e1 : ∀ q, Sem.run Try.prog (convert 39 9 x.v1) (w.drewN q) = .ok (.string (strB x.e.k)) (w.drewN q) := fun q => conv_key (HX.out.draws q)
          have e2 : ∀ q, Sem.run Try.prog (convert 39 9 (.slice a1 e.e.k.length c1)) (w.drewN q) = .ok (.string (strB e.e.k)) (w.drewN q) := fun q => conv_key (HE.out.draws q)
          have HCM : Hid ((Op.bytesLess (strB e.e.k).toList (strB x.e.k).toList || (strB e.e.k).toList == (strB x.e.k).toList) = !decide (x.e.k < e.e.k)) := by
            rw [Hid, strB_lt, strB_eq]
            by_cases h : x.e.k < e.e.k
            · have n1 : ¬ e.e.k < x.e.k := by grind
              have n2 : ¬ e.e.k = x.e.k := by grind
              simp [h, n1, n2]
            · rcases (show e.e.k < x.e.k ∨ e.e.k = x.e.k by grind) with h' | h'
              · simp [h, h']
              · simp [h']
          have hcm := HCM.out
          clear hx hj hk0 h1
          by_cases hlk : x.e.k < e.e.k
          · have HR : Hid (faultAt s (prevK (L.map It.e) i) e.e = 0) := by rw [Hid, HFP.out, HP.out]; simp [hlk]
            rw [decide_eq_true hlk] at hcm
            clear hlk HCM
            generalize strB x.e.k = S1 at *
            generalize strB e.e.k = S2 at *
            go_enter Try.func69, Try.ntmps69
            go_wp2_with fail
            go_quiet (fail)
            go_wp2
            go_ret
            exact ⟨by rw [HR.out]; rfl, _, rfl⟩
          · have HR : Hid (faultAt s (prevK (L.map It.e) i) e.e = 53) := by rw [Hid, HFP.out, HP.out]; simp [hlk]
            rw [decide_eq_false hlk] at hcm
            clear hlk HCM
            generalize strB x.e.k = S1 at *
            generalize strB e.e.k = S2 at *
            go_enter Try.func69, Try.ntmps69
            go_wp2_with fail
            go_quiet (fail)
            go_wp2
            go_ret
            exact ⟨by rw [HR.out]; rfl, _, rfl⟩
end Go.Proofs.Ytgifnaahahfhbaa
