/- sort.Search; the child that a key is for. -/
import Derived.Test.YtpmcpomomagkhaaLinks
import Derived.Deep.RegionHeldLaw
namespace Go.Proofs.Ytpmcpomomagkhaa
open Go.RowKit

/-- What a search leaves. -/
structure SeekPost (w : World) (n : Nat) (p : Nat → Bool) (e : Ending) (w' : World) : Prop where
  is : ∃ r : Nat, e = .returned (.int .i64 (r : Int)) ∧ r ≤ n ∧ (∀ t, t < r → p t = false) ∧ (∀ t, r ≤ t → t < n → p t = true) ∧ Below w.heap.size w w'

set_option maxHeartbeats 1600000 in
set_option maxRecDepth 100000 in
theorem seek_any {w : World} {g n : Nat} {cb : Array Value} {p : Nat → Bool} (eg : ∀ args w, (callFunc g args).run Try.prog w = .ok (.enter g args) w) (hn : n ≤ 10000000000000)
    (hf : ∀ W i, Below w.heap.size w W → i < n → Calls Try.prog g (#[.int .i64 (i : Nat)] ++ cb) W fun e w' => e = .returned (.bool (p i)) ∧ Below W.heap.size W w')
    (hm : ∀ a b, a ≤ b → b < n → p a = true → p b = true) :
    Calls Try.prog 57 #[.int .i64 (n : Nat), .func (.func g) #[] cb] w fun e w' => SeekPost w n p e w' := by
  have HF : Hid _ := hf
  have HM : Hid _ := hm
  clear hf hm
  go_enter Try.func57, Try.ntmps57
  go_wp2_with fail
  go_loopw [5, 6] (fun vi vj wx => ∃ lo hi : Nat, vi = .int .i64 lo ∧ vj = .int .i64 hi ∧ lo ≤ hi ∧ hi ≤ n ∧ (∀ t, t < lo → p t = false) ∧ (∀ t, hi ≤ t → t < n → p t = true) ∧ Below w.heap.size w wx) (fun vi vj _ => (intOf vj).toNat - (intOf vi).toNat)
  case atStart => exact ⟨0, n, rfl, rfl, by omega, Nat.le_refl _, fun t ht => absurd ht (Nat.not_lt_zero _), fun t h1 h2 => by omega, Below.refl _ _⟩
  case round =>
    obtain ⟨lo, hi, rfl, rfl, hlh, hin, h1, h2, hbw⟩ := hrel
    have H1 : Hid (∀ t, t < lo → p t = false) := h1
    have H2 : Hid (∀ t, hi ≤ t → t < n → p t = true) := h2
    have HBW : Hid (Below w.heap.size w wr) := hbw
    clear h1 h2 hbw
    by_cases hlt : lo < hi
    · have hz : (lo : Int) < (hi : Int) := by omega
      obtain ⟨h, hh⟩ : ∃ h : Nat, h = (lo + hi) / 2 := ⟨_, rfl⟩
      have hh1 : ((lo : Int) + (hi : Int)) / 2 = (h : Int) := by omega
      have hh2 : h < hi := by omega
      have hh3 : lo ≤ h := by omega
      have HC := HF.out wr h HBW.out (by omega)
      clear hh
      by_cases hp : p h = true
      · have HI2 : Hid (∀ t, h ≤ t → t < n → p t = true) := fun t ht htn => HM.out h t ht htn hp
        rw [hp] at HC
        clear hp
        go_wp2_with (go_at_fn g; refine HC.mono ?_; rintro e w1 ⟨rfl, hb1⟩; have HB1 : Hid (Below w.heap.size w w1) := HBW.out.trans (hb1.mono HBW.out.size); clear hb1)
        exact ⟨⟨lo, h, rfl, by go_num, hh3, by omega, H1.out, HI2.out, HB1.out⟩, by simp [intOf]; omega⟩
      · have hp' : p h = false := by simpa using hp
        have HI2 : Hid (∀ t, t < h + 1 → p t = false) := fun t ht => by
          by_cases htp : p t = true
          · have := HM.out t h (by omega) (by omega) htp
            rw [hp'] at this; cases this
          · simpa using htp
        rw [hp'] at HC
        clear hp hp'
        go_wp2_with (go_at_fn g; refine HC.mono ?_; rintro e w1 ⟨rfl, hb1⟩; have HB1 : Hid (Below w.heap.size w w1) := HBW.out.trans (hb1.mono HBW.out.size); clear hb1)
        exact ⟨⟨h + 1, hi, by go_num, rfl, by omega, hin, HI2.out, H2.out, HB1.out⟩, by simp [intOf]; omega⟩
    · have hz : ¬ (lo : Int) < (hi : Int) := by omega
      obtain rfl : lo = hi := by omega
      go_wp2
      go_ret
      exact ⟨lo, rfl, hin, H1.out, H2.out, HBW.out⟩

set_option maxHeartbeats 1600000 in
set_option maxRecDepth 100000 in
theorem childFn_any {w : World} {b1 b2 i : Nat} {vk u : Value} {K : List Br.Kc} {key : Key} {e : Br.Kc} (hx : w.cell? ⟨b1, 1, none⟩ = some vk) (hy : w.cell? ⟨b2, 0, none⟩ = some u) (hK : Br.KeysAt w.heap.size w vk K) (hu : KeyAt w u key) (hi : K[i]? = some e) :
    Calls Try.prog 58 #[.int .i64 (i : Nat), .pointer (some ⟨b1, 0, none⟩), .pointer (some ⟨b2, 0, none⟩)] w fun r w' => r = .returned (.bool (decide (key < e.k))) ∧ Below w.heap.size w w' := by
  obtain ⟨g, off, c, e1, hce⟩ := hK.cell i e hi
  subst e1
  have hil := (List.getElem?_eq_some_iff.1 hi).1
  obtain ⟨_, _, ec, hc, _⟩ := hK.row.is
  rw [List.length_map] at ec hc
  cases ec
  have hsh := hK.short
  obtain ⟨au, cu, eu⟩ := hu.in.form
  subst eu
  have hci : ¬ c = i := by omega
  have hz1 : (i : Int) + 1 ≤ (c : Int) := by omega
  have hz2 : (i : Int) ≤ (i : Int) + 1 := by omega
  have hz3 : (0 : Int) ≤ (i : Int) := by omega
  have hz4 : IntKind.i64.wrap ((i : Int) + 1) = (i : Int) + 1 := by
    have := Br.wrapk_of ((i : Int) + 1) (by omega) (by omega)
    exact this
  have hz5 : (0 : Int) ≤ (i : Int) + 1 := by omega
  have hz6 : i + 1 ≤ c := by omega
  have hl1 := World.block_lt_of_cell? _ _ hx
  have hl2 := World.block_lt_of_cell? _ _ hy
  have HD : Hid (Below w.heap.size w w.drew) := (Below.refl _ _).drew
  have HKD : Hid (Br.KidsAt w.drew.heap.size w.drew (.agg #[.slice none 0 0, .slice (some ⟨g, off + i, none⟩) 1 (c - i)]) [] [e]) := by
    have h1 := ((hK.here HD.out).drop i (by omega)).take 1 (by omega) (c - i) (by omega) (Nat.le_refl _)
    have h2 : (K.drop i).take 1 = [e] := by
      rw [List.drop_eq_getElem_cons hil]
      obtain ⟨_, h3⟩ := List.getElem?_eq_some_iff.1 hi
      rw [h3]; rfl
    rw [h2] at h1
    exact ⟨_, _, rfl, Br.IntsAt.nil _ _, h1⟩
  have HCH := Br.child_any HKD.out (toBr (hu.here HD.out))
  have HR : Hid ((((childK (Br.keysOf [e]) key : Nat) : Int) == 0) = decide (key < e.k)) := by
    unfold Hid childK Br.keysOf
    by_cases h : key < e.k <;> simp [h]
  clear hK hu hi hce
  go_enter Try.func58, Try.ntmps58
  go_wp2_with fail
  go_region_held_law (fun W' => W'.cell? ⟨b1, 1, none⟩ = some (.slice (some ⟨g, off, none⟩) K.length c) ∧ W'.cell? ⟨b2, 0, none⟩ = some (.slice au key.length cu)) (first | go_keep | (refine ⟨?_, ?_⟩ <;> assumption))
    ((go_at_call 59
      refine HCH.mono ?_
      rintro r w1 ⟨rfl, hb1⟩
      have HB1 : Hid (Below w.heap.size w w1) := HD.out.trans (hb1.mono HD.out.size)
      have q1 := (HB1.out.cell (p := ⟨b1, 1, none⟩) hl1).trans hx
      have q2 := (HB1.out.cell (p := ⟨b2, 0, none⟩) hl2).trans hy
      clear hb1))
  go_wp2
  go_ret
  exact ⟨by rw [HR.out]; rfl, HB1.out⟩

/-- What the closure says of a place. -/
def isAbove (K : List Br.Kc) (key : Key) (i : Nat) : Bool := match K[i]? with
  | some e => decide (key < e.k)
  | none => true

set_option maxHeartbeats 1600000 in
set_option maxRecDepth 100000 in
theorem childOf_any {w : World} {a1 a2 a3 a4 : Option Addr} {n1 n3 n4 c1 c2 c3 c4 : Nat} {u : Value} {K : List Br.Kc} {key : Key} (hK : Br.KeysAt w.heap.size w (.slice a2 K.length c2) K) (hr : riseK (Br.keysOf K) = true) (hu : KeyAt w u key) :
    Calls Try.prog 40 #[.agg #[.slice a1 n1 c1, .slice a2 K.length c2, .slice a3 n3 c3, .slice a4 n4 c4], u] w fun r w' => r = .returned (.int .i64 (childK (Br.keysOf K) key : Nat)) ∧ Below w.heap.size w w' := by
  have hsh := hK.short
  obtain ⟨au, cu, eu⟩ := hu.in.form
  subst eu
  obtain ⟨W1, hW1⟩ : ∃ W1, W1 = w.alloc (.cells #[.slice a1 n1 c1, .slice a2 K.length c2, .slice a3 n3 c3, .slice a4 n4 c4] 58) := ⟨_, rfl⟩
  obtain ⟨W2, hW2⟩ : ∃ W2, W2 = W1.alloc (.cells #[.slice au key.length cu] 32) := ⟨_, rfl⟩
  have HB1 : Hid (Below w.heap.size w W1) := by rw [hW1]; exact below_new _ _
  have HB12 : Hid (Below W1.heap.size W1 W2) := by rw [hW2]; exact below_new _ _
  have HB2 : Hid (Below w.heap.size w W2) := HB1.out.trans (HB12.out.mono HB1.out.size)
  have HX : Hid (PBox W2 w.heap.size (.slice a1 n1 c1) (.slice a2 K.length c2) (.slice a3 n3 c3) (.slice a4 n4 c4)) := by
    have : PBox W1 w.heap.size (.slice a1 n1 c1) (.slice a2 K.length c2) (.slice a3 n3 c3) (.slice a4 n4 c4) := by rw [hW1]; exact PBox.new _ _ _ _ _
    exact this.here HB12.out
  have hs1 : W1.heap.size = w.heap.size + 1 := by rw [hW1]; simp
  have HY : Hid (W2.cell? ⟨w.heap.size + 1, 0, none⟩ = some (.slice au key.length cu)) := by
    rw [Hid, hW2, ← hs1, row_cell (heap_alloc_last W1 _)]; rfl
  have HYL : Hid (w.heap.size + 1 < W2.heap.size) := by rw [Hid, hW2]; simp [hs1]
  have HSE : Hid (Calls Try.prog 57 #[.int .i64 (K.length : Nat), .func (.func 58) #[] #[.pointer (some ⟨w.heap.size, 0, none⟩), .pointer (some ⟨w.heap.size + 1, 0, none⟩)]] W2 fun e w' => SeekPost W2 K.length (isAbove K key) e w') := by
    refine seek_any (enters_of Try.func58 (by kernel_rfl) rfl) (by omega) (fun W i hb hi => ?_) (fun x y hxy hy hp => ?_)
    · obtain ⟨e, he⟩ : ∃ e, K[i]? = some e := ⟨_, List.getElem?_eq_getElem hi⟩
      have := childFn_any (b1 := w.heap.size) (b2 := w.heap.size + 1) (HX.out.here hb).cells.2.1 ((hb.cell (p := ⟨w.heap.size + 1, 0, none⟩) HYL.out).trans HY.out) ((hK.here HB2.out).here hb) ((hu.here HB2.out).here hb) he
      rw [show isAbove K key i = decide (key < e.k) by unfold isAbove; rw [he]]
      exact this
    · obtain ⟨e, he⟩ : ∃ e, K[x]? = some e := ⟨_, List.getElem?_eq_getElem (by omega)⟩
      obtain ⟨f, hf⟩ : ∃ f, K[y]? = some f := ⟨_, List.getElem?_eq_getElem hy⟩
      unfold isAbove at hp ⊢
      rw [he] at hp
      rw [hf]
      simp only [decide_eq_true_eq] at hp ⊢
      rcases Nat.lt_or_ge x y with h | h
      · have h1 := Br.keysOf_get he
        have h2 := Br.keysOf_get hf
        obtain ⟨l1, e1⟩ := List.getElem?_eq_some_iff.1 h1
        obtain ⟨l2, e2⟩ := List.getElem?_eq_some_iff.1 h2
        have := List.pairwise_iff_getElem.1 (rise_iff.1 hr) x y l1 l2 h
        rw [e1, e2] at this
        grind
      · have : x = y := by omega
        subst this
        rw [he] at hf
        cases hf
        exact hp
  obtain ⟨x0, x1, x2, x3⟩ := HX.out.cells
  clear hK hu
  go_enter Try.func40, Try.ntmps40
  go_wp2_with fail
  rw [← hW1, ← hW2]
  refine HSE.out.mono ?_
  rintro r w1 ⟨q, rfl, hq, h1, h2, hb⟩
  have HR : Hid (childK (Br.keysOf K) key = q) := by
    refine childK_is (by rw [Br.keysOf_length]; exact hq) (fun i x hi hx => ?_) (fun x hx => ?_)
    · have := h1 i hi
      obtain ⟨e, he⟩ : ∃ e, K[i]? = some e := ⟨_, List.getElem?_eq_getElem (by omega)⟩
      rw [Br.keysOf_get he] at hx
      cases hx
      unfold isAbove at this
      rw [he] at this
      simp only [decide_eq_false_iff_not] at this
      grind
    · have hl := (List.getElem?_eq_some_iff.1 hx).1
      rw [Br.keysOf_length] at hl
      have := h2 q (Nat.le_refl _) hl
      obtain ⟨e, he⟩ : ∃ e, K[q]? = some e := ⟨_, List.getElem?_eq_getElem hl⟩
      rw [Br.keysOf_get he] at hx
      cases hx
      unfold isAbove at this
      rw [he] at this
      simpa using this
  have HB3 : Hid (Below w.heap.size w w1) := HB2.out.trans (hb.mono HB2.out.size)
  clear h1 h2 hb
  go_wp2
  go_ret
  exact ⟨by rw [HR.out]; rfl, HB3.out⟩
end Go.Proofs.Ytpmcpomomagkhaa
