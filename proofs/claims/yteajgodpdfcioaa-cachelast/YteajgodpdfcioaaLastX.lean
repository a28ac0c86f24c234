/- CacheLast's walk: the last ones that were used; more places miss nothing. -/
import Derived.Test.YteajgodpdfcioaaFrame
import Derived.Test.YteajgodpdfcioaaShown
import Derived.Test.YteajgodpdfcioaaHeldP
import Derived.Test.YteajgodpdfcioaaArgs
namespace Go.Proofs.Yteajgodpdfcioaa
open Go.RowKit Go.Maps

/-- Two caches, apart, all their blocks new. -/
structure Two (B U : Nat) (w0 w : World) (ca cb : Nat) (sa sb : Ca Value) : Prop where
  is : ∃ oa ob, CacheAt U oa w ca sa ∧ CacheAt U ob w cb sb ∧ (∀ k, oa k → B ≤ k ∧ ¬ ob k) ∧ ∀ k, ob k → B ≤ k
  low : Below B w0 w
theorem Two.below {B U : Nat} {w0 w w' : World} {ca cb : Nat} {sa sb : Ca Value} (h : Two B U w0 w ca cb sa sb) (hb : Below w.heap.size w w') (hB : B ≤ w0.heap.size) : Two B U w0 w' ca cb sa sb := by
  obtain ⟨⟨oa, ob, h1, h2, h3, h4⟩, h5⟩ := h
  exact ⟨⟨oa, ob, h1.below hb, h2.below hb, h3, h4⟩, h5.trans (hb.mono (Nat.le_trans hB h5.size))⟩
theorem Two.mono {B U U' : Nat} {w0 w : World} {ca cb : Nat} {sa sb : Ca Value} (h : Two B U w0 w ca cb sa sb) (hU : U ≤ U') : Two B U' w0 w ca cb sa sb := by
  obtain ⟨⟨oa, ob, h1, h2, h3, h4⟩, h5⟩ := h
  exact ⟨⟨oa, ob, h1.mono hU, h2.mono hU, h3, h4⟩, h5⟩
theorem two_a {B U : Nat} {w0 w w' : World} {ca cb : Nat} {oa ob : Nat → Prop} {sa sb sa' : Ca Value} (h1 : CacheAt U oa w ca sa) (h2 : CacheAt U ob w cb sb) (h3 : ∀ k, oa k → B ≤ k ∧ ¬ ob k) (h4 : ∀ k, ob k → B ≤ k) (h5 : Below B w0 w) (hn : Next U oa w ca sa' w') (hB : B ≤ w0.heap.size) : Hid (Two B (U + 1) w0 w' ca cb sa' sb ∧ Still w w') := by
  have hst := Next.still h1 hn
  obtain ⟨oa', k1, k2, k3⟩ := hn
  have hBw : B ≤ w.heap.size := Nat.le_trans hB h5.size
  refine ⟨⟨⟨oa', ob, k1, (h2.beside k3 (fun i hi ho => (h3 i ho).2 hi)).mono (Nat.le_succ _), fun k hk => ?_, h4⟩, Kept.below h5 k3 hBw (fun i hi => (h3 i hi).1)⟩, hst⟩
  rcases k2 k hk with h | h
  · exact h3 k h
  · exact ⟨Nat.le_trans hBw h, fun hb => by have := h2.lt hb; omega⟩
theorem two_b {B U : Nat} {w0 w w' : World} {ca cb : Nat} {oa ob : Nat → Prop} {sa sb sb' : Ca Value} (h1 : CacheAt U oa w ca sa) (h2 : CacheAt U ob w cb sb) (h3 : ∀ k, oa k → B ≤ k ∧ ¬ ob k) (h4 : ∀ k, ob k → B ≤ k) (h5 : Below B w0 w) (hn : Next U ob w cb sb' w') (hB : B ≤ w0.heap.size) : Hid (Two B (U + 1) w0 w' ca cb sa sb' ∧ Still w w') := by
  have hst := Next.still h2 hn
  obtain ⟨ob', k1, k2, k3⟩ := hn
  have hBw : B ≤ w.heap.size := Nat.le_trans hB h5.size
  refine ⟨⟨⟨oa, ob', (h1.beside k3 (fun i hi ho => (h3 i hi).2 ho)).mono (Nat.le_succ _), k1, fun k hk => ⟨(h3 k hk).1, fun hb => ?_⟩, fun k hk => ?_⟩, Kept.below h5 k3 hBw h4⟩, hst⟩
  · rcases k2 k hb with h | h
    · exact (h3 k hk).2 h
    · have := h1.lt hk; omega
  · rcases k2 k hk with h | h
    · exact h4 k h
    · exact Nat.le_trans hBw h
section
variable {B U : Nat} {w0 w : World} {ca cb : Nat} {sa sb : Ca Value}
theorem put_a (h : Two B U w0 w ca cb sa sb) (hB : B ≤ w0.heap.size) {n x : Int} (hn : (Lit.int .i64 n).wf = true) (hU : U < 4611686018427387904) :
    Calls Try.prog 14 #[ptr ca, .int .i64 n, .int .i64 x] w fun r w' => ∃ z t, r = .returned (.tuple #[.int .i64 z, .bool t]) ∧ Hid (Two B (U + 1) w0 w' ca cb (sa.put n (vi x)) sb ∧ Still w w') := by
  obtain ⟨⟨oa, ob, h1, h2, h3, h4⟩, h5⟩ := h
  refine (put_any h1 hn ⟨x, rfl⟩ hU).mono ?_
  rintro r w' ⟨rfl, hx⟩
  exact ⟨_, _, rfl, two_a h1 h2 h3 h4 h5 hx hB⟩
theorem put_b (h : Two B U w0 w ca cb sa sb) (hB : B ≤ w0.heap.size) {n x : Int} (hn : (Lit.int .i64 n).wf = true) (hU : U < 4611686018427387904) :
    Calls Try.prog 14 #[ptr cb, .int .i64 n, .int .i64 x] w fun r w' => ∃ z t, r = .returned (.tuple #[.int .i64 z, .bool t]) ∧ Hid (Two B (U + 1) w0 w' ca cb sa (sb.put n (vi x)) ∧ Still w w') := by
  obtain ⟨⟨oa, ob, h1, h2, h3, h4⟩, h5⟩ := h
  refine (put_any h2 hn ⟨x, rfl⟩ hU).mono ?_
  rintro r w' ⟨rfl, hx⟩
  exact ⟨_, _, rfl, two_b h1 h2 h3 h4 h5 hx hB⟩
theorem get_a (h : Two B U w0 w ca cb sa sb) (hB : B ≤ w0.heap.size) {n : Int} (hn : (Lit.int .i64 n).wf = true) (hU : U < 4611686018427387904) :
    Calls Try.prog 13 #[ptr ca, .int .i64 n] w fun r w' => r = .returned (.tuple #[sa.tells n, .bool (sa.has n)]) ∧ Hid (Two B (U + 1) w0 w' ca cb (sa.get n) sb ∧ Still w w') := by
  obtain ⟨⟨oa, ob, h1, h2, h3, h4⟩, h5⟩ := h
  refine (get_any h1 hn hU).mono ?_
  rintro r w' ⟨rfl, hx⟩
  exact ⟨rfl, two_a h1 h2 h3 h4 h5 hx hB⟩
theorem get_b (h : Two B U w0 w ca cb sa sb) (hB : B ≤ w0.heap.size) {n : Int} (hn : (Lit.int .i64 n).wf = true) (hU : U < 4611686018427387904) :
    Calls Try.prog 13 #[ptr cb, .int .i64 n] w fun r w' => r = .returned (.tuple #[sb.tells n, .bool (sb.has n)]) ∧ Hid (Two B (U + 1) w0 w' ca cb sa (sb.get n) ∧ Still w w') := by
  obtain ⟨⟨oa, ob, h1, h2, h3, h4⟩, h5⟩ := h
  refine (get_any h2 hn hU).mono ?_
  rintro r w' ⟨rfl, hx⟩
  exact ⟨rfl, two_b h1 h2 h3 h4 h5 hx hB⟩
theorem numbers_a (h : Two B U w0 w ca cb sa sb) : Calls Try.prog 16 #[ptr ca] w fun r w' => ∃ v, r = .returned v ∧ NewI w.heap.size w' v sa.nums ∧ Below w.heap.size w w' := by
  obtain ⟨⟨oa, ob, h1, h2, h3, h4⟩, h5⟩ := h
  exact numbers_any h1
theorem count_a (h : Two B U w0 w ca cb sa sb) : Calls Try.prog 17 #[ptr ca] w fun r w' => r = .returned (.int .i64 (sa.L.length : Int)) ∧ w' = w := by
  obtain ⟨⟨oa, ob, h1, h2, h3, h4⟩, h5⟩ := h
  exact count_any h1
theorem count_b (h : Two B U w0 w ca cb sa sb) : Calls Try.prog 17 #[ptr cb] w fun r w' => r = .returned (.int .i64 (sb.L.length : Int)) ∧ w' = w := by
  obtain ⟨⟨oa, ob, h1, h2, h3, h4⟩, h5⟩ := h
  exact count_any h2
theorem Two.facts (h : Two B U w0 w ca cb sa sb) : (sa.nums.Nodup ∧ sa.L.length ≤ sa.places ∧ 1 ≤ sa.places) ∧ (sb.nums.Nodup ∧ sb.L.length ≤ sb.places ∧ 1 ≤ sb.places) := by
  obtain ⟨⟨oa, ob, h1, h2, h3, h4⟩, h5⟩ := h
  obtain ⟨a1, a2, a3, _⟩ := h1.facts
  obtain ⟨b1, b2, b3, _⟩ := h2.facts
  exact ⟨⟨a1, a2, a3⟩, b1, b2, b3⟩
theorem two_shape (h : Two B U w0 w ca cb sa sb) (n : Int) : (∃ z, sa.tells n = .int .i64 z) ∧ ∃ z, sb.tells n = .int .i64 z := by
  obtain ⟨⟨oa, ob, h1, h2, h3, h4⟩, h5⟩ := h
  obtain ⟨_, _, _, _, a5⟩ := h1.facts
  obtain ⟨_, _, _, _, b5⟩ := h2.facts
  refine ⟨?_, ?_⟩
  · unfold Ca.tells
    cases hf : findT n sa.L with
    | none => exact ⟨0, rfl⟩
    | some t => exact a5 t (find_some hf).1
  · unfold Ca.tells
    cases hf : findT n sb.L with
    | none => exact ⟨0, rfl⟩
    | some t => exact b5 t (find_some hf).1
end
/-- Numbers that are read alone. -/
structure IntRow (w : World) (v : Value) (L : List Int) : Prop where
  is : ∃ a c, v = .slice a L.length c ∧ L.length ≤ c ∧ (a = none → c = 0) ∧ (L ≠ [] → ∃ g off cur, a = some ⟨g, off, none⟩ ∧ w.heap[g]? = some (.cells cur 3 (0, 0)) ∧ ∀ j x, L[j]? = some x → cur[off + j]? = some (.int .i64 x))
theorem IntRow.still {w w' : World} {v : Value} {L : List Int} (h : IntRow w v L) (hs : Still w w') : IntRow w' v L := by
  obtain ⟨a, c, h1, h2, h3, h4⟩ := h.is
  refine ⟨a, c, h1, h2, h3, fun hne => ?_⟩
  obtain ⟨g, off, cur, e1, e2, e3⟩ := h4 hne
  exact ⟨g, off, cur, e1, hs.is g cur _ _ (by decide) (by decide) (by decide) (by decide) e2, e3⟩
theorem IntRow.at {w : World} {v : Value} {L : List Int} (h : IntRow w v L) : IntsAt w v L := by
  obtain ⟨a, c, h1, h2, h3, h4⟩ := h.is
  refine ⟨⟨a, c, h1, h2, h3, fun j u hj => ?_⟩, by simp⟩
  rw [List.getElem?_map] at hj
  cases hx : L[j]? with
  | none => rw [hx] at hj; cases hj
  | some x =>
    rw [hx] at hj
    cases hj
    obtain ⟨g, off, cur, e1, e2, e3⟩ := h4 (fun e => by rw [e] at hx; simp at hx)
    exact ⟨g, off, e1, (Array.getElem?_eq_some_iff.1 e2).1, by rw [row_cell e2, e3 j x hx]; rfl⟩
theorem IntRow.nil (w : World) : IntRow w (.slice none 0 0) [] := ⟨none, 0, rfl, Nat.le_refl _, fun _ => rfl, fun h => absurd rfl h⟩
theorem IntRow.own {base : Nat} {w : World} {v : Value} {L : List Int} (h : NewI base w v L) : IntRow w v L := by
  obtain ⟨h1, h2⟩ := h
  rcases h2 with ⟨rfl, h0⟩ | ⟨g, cap, cur, rfl, hb, hg, hc, hm, hs, hx⟩
  · exact ⟨none, 0, by rw [h0], by rw [h0]; exact Nat.le_refl _, fun _ => rfl, fun hne => absurd (List.eq_nil_of_length_eq_zero h0) hne⟩
  · refine ⟨_, cap, rfl, hc, (fun h => by cases h), fun _ => ⟨g, 0, cur, rfl, hg, fun j x hj => ?_⟩⟩
    have : (L.map encI)[j]? = some (.int .i64 x) := by rw [List.getElem?_map, hj]; rfl
    rw [← hx, List.getElem?_take] at this
    split at this
    · rw [Nat.zero_add, ← Array.getElem?_toList]; exact this
    · cases this
/-- The end of a row of one's own. -/
theorem IntRow.tail {base g c : Nat} {w : World} {L : List Int} (h : NewI base w (.slice (some ⟨g, 0, none⟩) L.length c) L) (lo : Nat) (hlo : lo < L.length) : IntRow w (.slice (some ⟨g, lo, none⟩) (L.length - lo) (c - lo)) (L.drop lo) := by
  obtain ⟨h1, h2⟩ := h
  rcases h2 with ⟨e, h0⟩ | ⟨g', cap, cur, e, hb, hg, hc, hm, hs, hx⟩
  · cases e
  · cases e
    refine ⟨_, c - lo, by simp, by simp; omega, (fun h => by cases h), fun _ => ⟨g, lo, cur, rfl, hg, fun j x hj => ?_⟩⟩
    rw [List.getElem?_drop] at hj
    have : (L.map encI)[lo + j]? = some (.int .i64 x) := by rw [List.getElem?_map, hj]; rfl
    rw [← hx, List.getElem?_take] at this
    split at this
    · rw [← Array.getElem?_toList]; exact this
    · cases this
theorem row_at {w : World} {a : Option Addr} {c k : Nat} {L : List Int} {x : Int} (h : IntRow w (.slice a L.length c) L) (hk : L[k]? = some x) : ∃ g off, a = some ⟨g, off, none⟩ ∧ g < w.heap.size ∧ w.cell? ⟨g, off + k, none⟩ = some (.int .i64 x) := ints_cell h.at hk
structure RelL (B P Q ca cb : Nat) (w wr : World) (k : Nat) (lv : Value) (sa sb : Ca Value) (U : Nat) : Prop where
  two : Two B U w wr ca cb sa sb
  row : IntRow wr lv sa.nums
  la : Loose sa
  lb : Loose sb
  among : Among P Q sa.nums sb.nums
  pa : sa.places = P
  pb : sb.places = Q
  few : U ≤ 2 * k
theorem filter_step {l : List Int} {m : Nat} {y : Int} (h : l[m]? = some y) (n : Int) : (l.take (m + 1)).filter (fun x => x != n) = (l.take m).filter (fun x => x != n) ++ if y = n then [] else [y] := by
  rw [List.take_add_one, h, List.filter_append]
  congr 1
  by_cases e : y = n <;> simp [e]
set_option maxHeartbeats 3200000 in
set_option maxRecDepth 100000 in
theorem cacheLast_any {w : World} {v2 : Value} {p p' : Int} {L : List Us} (hp : (Lit.int .i64 p).wf = true) (hp' : (Lit.int .i64 p').wf = true) (h2 : UsesIn w v2 L) :
    Calls Try.prog 5 #[.int .i64 p, .int .i64 p', v2] w fun e w' => e = .returned (.bool true) ∧ Below w.heap.size w w' := by
  obtain ⟨a2, c2, rfl, _⟩ := h2.is
  have HL : Hid (UsesIn w (.slice a2 L.length c2) L) := h2
  have hsL : L.length ≤ 8796093022208 := by have := h2.short; omega
  have hsLz : (L.length : Int) ≤ 8796093022208 := by omega
  clear h2
  go_enter Try.func5, Try.ntmps5
  go_wp2_with fail
  refine (shown_any w).mono ?_
  rintro r w1 ⟨rfl, hb1⟩
  have HB1 : Hid (Below w.heap.size w w1) := hb1
  clear hb1
  go_wp2_with fail
  have HPK := pick_any w1 p 40 hp (by decide) (by decide)
  have hj40 := pickK_lt p 40 (by decide)
  generalize pickK p 40 = j at *
  refine HPK.mono ?_
  rintro r w1' ⟨rfl, hw1⟩
  obtain rfl := hw1.symm
  clear HPK hw1
  have hjz : (j : Int) < 40 := by omega
  go_wp2_with fail
  have HPK := pick_any w1 p' 40 hp' (by decide) (by decide)
  have hi40 := pickK_lt p' 40 (by decide)
  generalize pickK p' 40 = i at *
  refine HPK.mono ?_
  rintro r w1' ⟨rfl, hw1⟩
  obtain rfl := hw1.symm
  clear HPK hw1
  have hiz : (i : Int) < 40 := by omega
  obtain ⟨P, hP⟩ : ∃ P : Nat, P = j + 1 := ⟨_, rfl⟩
  obtain ⟨Q, hQ⟩ : ∃ Q : Nat, Q = j + 1 + i := ⟨_, rfl⟩
  have hPz : 1 + (j : Int) = (P : Int) := by omega
  have hQz : (P : Int) + (i : Int) = (Q : Int) := by omega
  have hP1 : 1 ≤ P := by omega
  have hP2 : P ≤ 40 := by omega
  have hQ1 : P ≤ Q := by omega
  have hQ2 : Q ≤ 80 := by omega
  have HNA : Hid (Calls Try.prog 12 #[.int .i64 (P : Int)] w1 fun r w' => r = .returned (.tuple #[ptr (w1.heap.size + 2), .int .i64 0]) ∧ CacheAt 0 (fun k => w1.heap.size ≤ k ∧ k < w1.heap.size + 3) w' (w1.heap.size + 2) ⟨P, 0, 0, []⟩ ∧ Below w1.heap.size w1 w' ∧ w'.heap.size = w1.heap.size + 3) := new_ok w1 P hP1 (by omega)
  clear hP hQ
  go_wp2_with fail
  refine Calls.mono HNA.out ?_
  rintro r w2 ⟨rfl, hc2, hb2, hs2⟩
  have HNB : Hid (Calls Try.prog 12 #[.int .i64 (Q : Int)] w2 fun r w' => r = .returned (.tuple #[ptr (w2.heap.size + 2), .int .i64 0]) ∧ CacheAt 0 (fun k => w2.heap.size ≤ k ∧ k < w2.heap.size + 3) w' (w2.heap.size + 2) ⟨Q, 0, 0, []⟩ ∧ Below w2.heap.size w2 w' ∧ w'.heap.size = w2.heap.size + 3) := new_ok w2 Q (by omega) (by omega)
  have HC2 : Hid (CacheAt 0 (fun k => w1.heap.size ≤ k ∧ k < w1.heap.size + 3) w2 (w1.heap.size + 2) ⟨P, 0, 0, []⟩) := hc2
  have HB2 : Hid (Below w1.heap.size w1 w2) := hb2
  have HS2 : Hid (w2.heap.size = w1.heap.size + 3) := hs2
  clear HNA hc2 hb2 hs2
  go_wp2_with fail
  refine Calls.mono HNB.out ?_
  rintro r w3 ⟨rfl, hc3, hb3, hs3⟩
  have HTW : Hid (Two w.heap.size 0 w w3 (w1.heap.size + 2) (w2.heap.size + 2) ⟨P, 0, 0, []⟩ ⟨Q, 0, 0, []⟩) := by
    have e1 := HS2.out
    have e2 := HB1.out.size
    exact ⟨⟨_, _, CacheAt.below HC2.out hb3, hc3, fun k hk => ⟨by omega, fun hk2 => by omega⟩, fun k hk => by omega⟩, Below.trans (Below.trans HB1.out (HB2.out.mono HB1.out.size)) (hb3.mono (by have := HB2.out.size; omega))⟩
  clear HNB hc3 hb3 hs3 HC2 HB2 HS2
  generalize hca : w1.heap.size + 2 = ca at *
  generalize hcb : w2.heap.size + 2 = cb at *
  clear hca hcb
  go_wp2_with fail
  go_loopw [12, 13] (fun lv iv wr => ∃ (k : Nat) (sa sb : Ca Value) (U : Nat), k ≤ L.length ∧ iv = .int .i64 k ∧ RelL w.heap.size P Q ca cb w wr k lv sa sb U) (fun _ iv _ => L.length - (intOf iv).toNat)
  case atStart => exact ⟨0, ⟨P, 0, 0, []⟩, ⟨Q, 0, 0, []⟩, 0, Nat.zero_le _, rfl, ⟨HTW.out, IntRow.nil _, fun t ht => (by cases ht), fun t ht => (by cases ht), ⟨hQ1, hP1, List.Sublist.refl _, fun _ => rfl⟩, rfl, rfl, Nat.le_refl _⟩⟩
  case round =>
    obtain ⟨k, sa, sb, U, hk, rfl, hR⟩ := hrel
    obtain ⟨wi, rfl⟩ : ∃ wi, wi = wr := ⟨_, rfl⟩
    have HR : Hid (RelL w.heap.size P Q ca cb w wi k _ sa sb U) := hR
    obtain ⟨al, cl, rfl, hlc, hln, _⟩ := hR.row.is
    have hU1 : U + 2 < 4611686018427387904 := by have := hR.few; omega
    have hnl : sa.nums.length ≤ P := by have h1 := hR.two.facts.1.2.1; rw [hR.pa] at h1; simpa [Ca.nums] using h1
    have hnlz : (sa.nums.length : Int) ≤ 40 := by omega
    clear hR HTW hlc hln
    by_cases hlt : k < L.length
    · have hltz : (k : Int) < (L.length : Int) := by omega
      obtain ⟨u, hu⟩ : ∃ u, L[k]? = some u := ⟨_, List.getElem?_eq_getElem hlt⟩
      obtain ⟨g, off, rfl, hg, n0, x0, wn, wx⟩ : ∃ g off, a2 = some ⟨g, off, none⟩ ∧ g < w.heap.size ∧ w.cell? ⟨g, off + k * 2, none⟩ = some (.int .i64 u.n) ∧ w.cell? ⟨g, off + k * 2 + 1, none⟩ = some (.int .i64 u.x) ∧ (Lit.int .i64 u.n).wf = true ∧ (Lit.int .i64 u.x).wf = true := by
        obtain ⟨a', c', e, _, _, h3⟩ := HL.out.is
        cases e
        obtain ⟨⟨g, off, h4, h5, h6, h7⟩, h8, h9⟩ := h3 k u hu
        exact ⟨g, off, h4, h5, h6, h7, h8, h9⟩
      have HCE : Hid (∀ W, Below w.heap.size w W → W.cell? ⟨g, off + k * 2, none⟩ = some (.int .i64 u.n) ∧ W.cell? ⟨g, off + k * 2 + 1, none⟩ = some (.int .i64 u.x)) := fun W hb => ⟨(Below.cell (p := ⟨g, off + k * 2, none⟩) hb hg).trans n0, (Below.cell (p := ⟨g, off + k * 2 + 1, none⟩) hb hg).trans x0⟩
      obtain ⟨k0, k1⟩ := HCE.out wi HR.out.two.low
      clear n0 x0 hu
      by_cases hx : u.x = 0
      · have k1' : wi.cell? ⟨g, off + k * 2 + 1, none⟩ = some (.int .i64 0) := by rw [k1, hx]
        clear k1 hx
        have HGA := get_a HR.out.two (Nat.le_refl _) wn (by omega)
        obtain ⟨za, hza⟩ := (two_shape HR.out.two u.n).1
        rw [hza] at HGA
        have HGH : Hid (Calls Try.prog 13 #[ptr ca, .int .i64 u.n] wi fun r w' => r = .returned (.tuple #[.int .i64 za, .bool (sa.has u.n)]) ∧ Hid (Two w.heap.size (U + 1) w w' ca cb (sa.get u.n) sb ∧ Still wi w')) := HGA
        clear HGA hza
        go_wp2_with fail
        refine Calls.mono HGH.out ?_
        rintro r w4 ⟨rfl, hq4⟩
        clear HGH
        have HGB := get_b hq4.out.1 (Nat.le_refl _) wn (by omega)
        obtain ⟨zb, hzb⟩ := (two_shape hq4.out.1 u.n).2
        rw [hzb] at HGB
        have HGH : Hid (Calls Try.prog 13 #[ptr cb, .int .i64 u.n] w4 fun r w' => r = .returned (.tuple #[.int .i64 zb, .bool (sb.has u.n)]) ∧ Hid (Two w.heap.size (U + 1 + 1) w w' ca cb (sa.get u.n) (sb.get u.n) ∧ Still w4 w')) := HGB
        clear HGB hzb
        go_wp2_with fail
        refine Calls.mono HGH.out ?_
        rintro r w5 ⟨rfl, hq5⟩
        clear HGH
        have HTW : Hid (Two w.heap.size (U + 1 + 1) w w5 ca cb (sa.get u.n) (sb.get u.n)) := hq5.out.1
        have HRW : Hid (IntRow w5 (.slice al sa.nums.length cl) sa.nums) := (HR.out.row.still hq4.out.2).still hq5.out.2
        have HAM : Hid (Among P Q (sa.get u.n).nums (sb.get u.n).nums) := by
          rw [get_nums, get_nums]
          exact HR.out.among.get HR.out.two.facts.1.1 u.n
        have HLA : Hid (Loose (sa.get u.n)) := get_loose HR.out.la u.n
        have HLB : Hid (Loose (sb.get u.n)) := get_loose HR.out.lb u.n
        have HPA : Hid ((sa.get u.n).places = P) := (getN_places _ _).trans HR.out.pa
        have HPB : Hid ((sb.get u.n).places = Q) := (getN_places _ _).trans HR.out.pb
        clear hq4 hq5
        by_cases hin : u.n ∈ sa.nums
        · have ea : sa.has u.n = true := found_iff.2 hin
          have eb : sb.has u.n = true := found_iff.2 (HR.out.among.sub.subset hin)
          have HNM : Hid ((sa.get u.n).nums = if P < (moveN u.n sa.nums).length then (moveN u.n sa.nums).drop ((moveN u.n sa.nums).length - P) else moveN u.n sa.nums) := (get_nums sa u.n).trans (law_get HR.out.two.facts.1.1 hnl hP1 hin)
          rw [ea, eb]
          generalize hsa1 : sa.get u.n = sa1 at *
          generalize hsb1 : sb.get u.n = sb1 at *
          have HFW : Hid (U ≤ 2 * k) := HR.out.few
          clear hsa1 hsb1 ea eb hin HR
          generalize hln : sa.nums = ln at *
          clear hln
          go_wp2_with fail
          go_loopw [19, 20] (fun nv kv wx => ∃ m : Nat, m ≤ ln.length ∧ kv = .int .i64 m ∧ NewI w5.heap.size wx nv ((ln.take m).filter (fun x => x != u.n)) ∧ Below w5.heap.size w5 wx) (fun _ kv _ => ln.length - (intOf kv).toNat)
          case atStart => exact ⟨0, Nat.zero_le _, rfl, World.ownsRow_nil _ _ _ _, Below.refl _ _⟩
          case round =>
            obtain ⟨m, hm, rfl, hnew, hbl⟩ := hrel
            have hfl : ((ln.take m).filter (fun x => x != u.n)).length ≤ 40 := Nat.le_trans (List.length_filter_le _ _) (by simp; omega)
            by_cases hml : m < ln.length
            · have hmz : (m : Int) < (ln.length : Int) := by omega
              obtain ⟨y, hy⟩ : ∃ y, ln[m]? = some y := ⟨_, List.getElem?_eq_getElem hml⟩
              obtain ⟨gl, ol, rfl, hgl, y0'⟩ := row_at HRW.out hy
              have y0 := (hbl.cell (p := ⟨gl, ol + m, none⟩) hgl).trans y0'
              have HST : Hid ((ln.take (m + 1)).filter (fun x => x != u.n) = (ln.take m).filter (fun x => x != u.n) ++ if y = u.n then [] else [y]) := filter_step hy u.n
              have HNW : Hid (NewI w5.heap.size wr u19 ((ln.take m).filter (fun x => x != u.n))) := hnew
              have HBL : Hid (Below w5.heap.size w5 wr) := hbl
              have hfz : ((ln.take m).filter (fun x => x != u.n)).length ≤ 40 := hfl
              clear hnew hbl hy y0' hfl
              generalize hfi : (ln.take m).filter (fun x => x != u.n) = fl at *
              clear hfi
              by_cases e : y = u.n
              · have he : (y != u.n) = false := by simpa using e
                go_wp2_with fail
                exact ⟨⟨m + 1, by omega, by go_num, by rw [HST.out, if_pos e, List.append_nil]; exact HNW.out, HBL.out⟩, by simp [intOf]; omega⟩
              · have he : (y != u.n) = true := by simpa using e
                have HV : Hid (NewI w5.heap.size (wr.alloc (.cells #[.int .i64 y] 3)) u19 fl) := own_here HNW.out (below_new _ _)
                have HB2 : Hid (Below w5.heap.size w5 (wr.alloc (.cells #[.int .i64 y] 3))) := HBL.out.alloc HBL.out.size _
                have HFZ : Hid (fl.length ≤ 40) := hfz
                clear hfz
                go_wp2_with (at_builtin
                             refine wpList_append_int rfl _ _ rfl w5.heap.size u19 fl y rfl HV.out wr.heap.size rfl (heap_alloc_last wr _) (by have := HFZ.out; omega) (Below.size HB2.out) ?_
                             intro v6 w6 hv6 _ hk6
                             have HV6 : Hid (NewI w5.heap.size w6 v6 (fl ++ [y])) := hv6
                             have HB6 : Hid (Below w5.heap.size w5 w6) := Below.trans HB2.out hk6.low
                             clear hv6 hk6)
                exact ⟨⟨m + 1, by omega, by go_num, by rw [HST.out, if_neg e]; exact HV6.out, HB6.out⟩, by simp [intOf]; omega⟩
            · have hmz : ¬ (m : Int) < (ln.length : Int) := by omega
              rw [List.take_of_length_le (by omega)] at hnew hfl
              have HMV : Hid (moveN u.n ln = ln.filter (fun x => x != u.n) ++ [u.n]) := rfl
              have HV : Hid (NewI w5.heap.size (wr.alloc (.cells #[.int .i64 u.n] 3)) u19 (ln.filter (fun x => x != u.n))) := own_here hnew (below_new _ _)
              have HB2 : Hid (Below w5.heap.size w5 (wr.alloc (.cells #[.int .i64 u.n] 3))) := hbl.alloc hbl.size _
              have HFZ : Hid ((ln.filter (fun x => x != u.n)).length ≤ 40) := hfl
              clear hnew hbl hfl hml hm
              go_upto_region 28 with (
                at_builtin
                refine wpList_append_int rfl _ _ rfl w5.heap.size u19 (ln.filter (fun x => x != u.n)) u.n rfl HV.out wr.heap.size rfl (heap_alloc_last wr _) (by have := HFZ.out; omega) (Below.size HB2.out) ?_
                intro v6 w6 hv6 _ hk6
                have hv6' : NewI w5.heap.size w6 v6 (moveN u.n ln) := hv6
                have HML : Hid ((moveN u.n ln).length ≤ 41) := (show (moveN u.n ln).length ≤ 41 by have := HFZ.out; unfold moveN; simp; omega)
                obtain ⟨g6, c6, rfl, hg6⟩ : ∃ g c, v6 = .slice (some ⟨g, 0, none⟩) (moveN u.n ln).length c ∧ (moveN u.n ln).length ≤ c := by
                  rcases hv6'.2 with ⟨_, h0⟩ | ⟨g, cap, cur, e, hb, hg, hc, _⟩
                  · exfalso; unfold moveN at h0; simp at h0
                  · exact ⟨g, cap, e, hc⟩
                have HV6 : Hid (NewI w5.heap.size w6 (.slice (some ⟨g6, 0, none⟩) (moveN u.n ln).length c6) (moveN u.n ln)) := hv6'
                have HT6 : Hid (Two w.heap.size (U + 1 + 1) w w6 ca cb sa1 sb1) := HTW.out.below (Below.trans HB2.out hk6.low) (Nat.le_refl _)
                generalize hmv : moveN u.n ln = mv at *
                have hmlz : (mv.length : Int) ≤ 41 := by have := HML.out; omega
                clear hv6 hv6' hk6 hmv)
              clear HMV HV HB2 HFZ HRW HTW
              by_cases hgt : P < mv.length
              · have hgz : (P : Int) < (mv.length : Int) := by omega
                obtain ⟨lo, hlo⟩ : ∃ lo, lo = mv.length - P := ⟨_, rfl⟩
                have hloz : (mv.length : Int) - (P : Int) = (lo : Int) := by omega
                have hlo1 : lo < mv.length := by omega
                have hlo2 : ¬ c6 = lo := by omega
                have hlo3 : lo ≤ c6 := by omega
                have hlo4 : (lo : Int) ≤ (mv.length : Int) := by omega
                have HIR : Hid (IntRow w6 (.slice (some ⟨g6, lo, none⟩) (mv.length - lo) (c6 - lo)) (mv.drop lo)) := IntRow.tail HV6.out lo hlo1
                have HNM1 : Hid (sa1.nums = mv.drop lo) := by
                  show _ = _
                  rw [HNM.out, if_pos hgt, hlo]
                clear hlo
                have HLN : Hid ((mv.drop lo).length = mv.length - lo) := List.length_drop ..
                have HNU := numbers_a HT6.out
                rw [HNM1.out] at HNU
                clear HNM HV6
                go_wp2_with fail
                refine HNU.mono ?_
                rintro r w7 ⟨v7, rfl, hn7, hb7⟩
                have HT7 : Hid (Two w.heap.size (U + 1 + 1) w w7 ca cb sa1 sb1) := HT6.out.below hb7 (Nat.le_refl _)
                have HI7 : Hid (IntRow w7 (.slice (some ⟨g6, lo, none⟩) (mv.length - lo) (c6 - lo)) (mv.drop lo)) := HIR.out.still (Still.below hb7)
                have HSM := sameInts_any (IntRow.own hn7).at HI7.out.at (by have := HML.out; simp; omega)
                rw [decide_eq_true rfl] at HSM
                clear HNU hn7 hb7
                go_wp2_with fail
                refine HSM.mono ?_
                rintro r w8 ⟨rfl, q8, hw8⟩
                clear HSM
                have HT8 : Hid (Two w.heap.size (U + 1 + 1) w w8 ca cb sa1 sb1) := by rw [hw8]; exact HT7.out.below (below_draws (Below.refl _ _) _) (Nat.le_refl _)
                have HI8 : Hid (IntRow w8 (.slice (some ⟨g6, lo, none⟩) (mv.length - lo) (c6 - lo)) (mv.drop lo)) := by rw [hw8]; exact HI7.out.still (Still.drewN _ _)
                clear hw8
                have HCA : Hid (Calls Try.prog 17 #[ptr ca] w8 fun r w' => r = .returned (.int .i64 ((mv.length - lo : Nat) : Int)) ∧ w' = w8) := by
                  have h1 := count_a HT8.out
                  have e1 : sa1.L.length = mv.length - lo := by
                    have : sa1.nums.length = sa1.L.length := by simp [Ca.nums]
                    rw [← this, HNM1.out]
                    exact HLN.out
                  rw [e1] at h1
                  exact h1
                have HCB : Hid (Calls Try.prog 17 #[ptr cb] w8 fun r w' => r = .returned (.int .i64 (sb1.L.length : Int)) ∧ w' = w8) := count_b HT8.out
                have hcb : ¬ (Q : Int) < (sb1.L.length : Int) := by have h1 := HT8.out.facts.2.2.1; rw [HPB.out] at h1; omega
                go_wp2_with (first
                  | (go_at_call_of 17 (ptr ca); refine Calls.mono HCA.out ?_; rintro r w9 ⟨rfl, hw9⟩; obtain rfl := hw9.symm; clear hw9)
                  | (go_at_call_of 17 (ptr cb); refine Calls.mono HCB.out ?_; rintro r w9 ⟨rfl, hw9⟩; obtain rfl := hw9.symm; clear hw9))
                exact ⟨⟨k + 1, sa1, sb1, U + 1 + 1, by omega, by go_num, ⟨HT8.out, by rw [HNM1.out]; exact HI8.out, HLA.out, HLB.out, HAM.out, HPA.out, HPB.out, by have := HFW.out; omega⟩⟩, by simp [intOf]; omega⟩
              · have hgz : ¬ (P : Int) < (mv.length : Int) := by omega
                have HIR : Hid (IntRow w6 (.slice (some ⟨g6, 0, none⟩) mv.length c6) mv) := IntRow.own HV6.out
                have HNM1 : Hid (sa1.nums = mv) := by
                  show _ = _
                  rw [HNM.out, if_neg hgt]
                have HNU := numbers_a HT6.out
                rw [HNM1.out] at HNU
                clear HNM HV6
                go_wp2_with fail
                refine HNU.mono ?_
                rintro r w7 ⟨v7, rfl, hn7, hb7⟩
                have HT7 : Hid (Two w.heap.size (U + 1 + 1) w w7 ca cb sa1 sb1) := HT6.out.below hb7 (Nat.le_refl _)
                have HI7 : Hid (IntRow w7 (.slice (some ⟨g6, 0, none⟩) mv.length c6) mv) := HIR.out.still (Still.below hb7)
                have HSM := sameInts_any (IntRow.own hn7).at HI7.out.at (by have := HML.out; omega)
                rw [decide_eq_true rfl] at HSM
                clear HNU hn7 hb7
                go_wp2_with fail
                refine HSM.mono ?_
                rintro r w8 ⟨rfl, q8, hw8⟩
                clear HSM
                have HT8 : Hid (Two w.heap.size (U + 1 + 1) w w8 ca cb sa1 sb1) := by rw [hw8]; exact HT7.out.below (below_draws (Below.refl _ _) _) (Nat.le_refl _)
                have HI8 : Hid (IntRow w8 (.slice (some ⟨g6, 0, none⟩) mv.length c6) mv) := by rw [hw8]; exact HI7.out.still (Still.drewN _ _)
                clear hw8
                have HCA : Hid (Calls Try.prog 17 #[ptr ca] w8 fun r w' => r = .returned (.int .i64 ((mv.length : Nat) : Int)) ∧ w' = w8) := by
                  have h1 := count_a HT8.out
                  have e1 : sa1.L.length = mv.length := by
                    have : sa1.nums.length = sa1.L.length := by simp [Ca.nums]
                    rw [← this, HNM1.out]
                  rw [e1] at h1
                  exact h1
                have HCB : Hid (Calls Try.prog 17 #[ptr cb] w8 fun r w' => r = .returned (.int .i64 (sb1.L.length : Int)) ∧ w' = w8) := count_b HT8.out
                have hcb : ¬ (Q : Int) < (sb1.L.length : Int) := by have h1 := HT8.out.facts.2.2.1; rw [HPB.out] at h1; omega
                go_wp2_with (first
                  | (go_at_call_of 17 (ptr ca); refine Calls.mono HCA.out ?_; rintro r w9 ⟨rfl, hw9⟩; obtain rfl := hw9.symm; clear hw9)
                  | (go_at_call_of 17 (ptr cb); refine Calls.mono HCB.out ?_; rintro r w9 ⟨rfl, hw9⟩; obtain rfl := hw9.symm; clear hw9))
                exact ⟨⟨k + 1, sa1, sb1, U + 1 + 1, by omega, by go_num, ⟨HT8.out, by rw [HNM1.out]; exact HI8.out, HLA.out, HLB.out, HAM.out, HPA.out, HPB.out, by have := HFW.out; omega⟩⟩, by simp [intOf]; omega⟩
        · have ea : sa.has u.n = false := by
            cases h : sa.has u.n with
            | false => rfl
            | true => exact absurd (found_iff.1 h) hin
          have HNM : Hid ((sa.get u.n).nums = sa.nums) := by
            show _ = _
            rw [get_nums]
            unfold getN
            rw [if_neg hin]
          rw [ea]
          clear ea hin
          go_wp2_with fail
          exact ⟨⟨k + 1, sa.get u.n, sb.get u.n, U + 1 + 1, by omega, by go_num, ⟨HTW.out, by rw [HNM.out]; exact HRW.out, HLA.out, HLB.out, HAM.out, HPA.out, HPB.out, by have := HR.out.few; omega⟩⟩, by simp [intOf]; omega⟩
      · have hxz : (u.x == 0) = false := by simpa using hx
        have HPT : Hid (Calls Try.prog 14 #[ptr ca, .int .i64 u.n, .int .i64 u.x] wi fun r w' => ∃ z t, r = .returned (.tuple #[.int .i64 z, .bool t]) ∧ Hid (Two w.heap.size (U + 1) w w' ca cb (sa.put u.n (vi u.x)) sb ∧ Still wi w')) := put_a HR.out.two (Nat.le_refl _) wn (by omega)
        go_wp2_with fail
        refine Calls.mono HPT.out ?_
        rintro r w4 ⟨z4, t4, rfl, hq4⟩
        clear HPT
        have HPT : Hid (Calls Try.prog 14 #[ptr cb, .int .i64 u.n, .int .i64 u.x] w4 fun r w' => ∃ z t, r = .returned (.tuple #[.int .i64 z, .bool t]) ∧ Hid (Two w.heap.size (U + 1 + 1) w w' ca cb (sa.put u.n (vi u.x)) (sb.put u.n (vi u.x)) ∧ Still w4 w')) := put_b hq4.out.1 (Nat.le_refl _) wn (by omega)
        obtain ⟨l0, l1⟩ := HCE.out w4 hq4.out.1.low
        go_wp2_with fail
        refine Calls.mono HPT.out ?_
        rintro r w5 ⟨z5, t5, rfl, hq5⟩
        clear HPT l0 l1
        have HTW : Hid (Two w.heap.size (U + 1 + 1) w w5 ca cb (sa.put u.n (vi u.x)) (sb.put u.n (vi u.x))) := hq5.out.1
        have HRW : Hid (IntRow w5 (.slice al sa.nums.length cl) sa.nums) := (HR.out.row.still hq4.out.2).still hq5.out.2
        have ena : (sa.put u.n (vi u.x)).nums = putN P u.n sa.nums := by rw [put_nums HR.out.la HR.out.two.facts.1.1 HR.out.two.facts.1.2.2, HR.out.pa]
        have enb : (sb.put u.n (vi u.x)).nums = putN Q u.n sb.nums := by rw [put_nums HR.out.lb HR.out.two.facts.2.1 HR.out.two.facts.2.2.2, HR.out.pb]
        have HAM : Hid (Among P Q (sa.put u.n (vi u.x)).nums (sb.put u.n (vi u.x)).nums) := by
          rw [ena, enb]
          exact HR.out.among.put HR.out.two.facts.1.1 (by have h1 := HR.out.two.facts.2.2.1; rw [HR.out.pb] at h1; simpa [Ca.nums] using h1) hnl u.n
        have HLA : Hid (Loose (sa.put u.n (vi u.x))) := put_loose HR.out.la u.n _
        have HLB : Hid (Loose (sb.put u.n (vi u.x))) := put_loose HR.out.lb u.n _
        have HPA : Hid ((sa.put u.n (vi u.x)).places = P) := (putN_places _ _ _).trans HR.out.pa
        have HPB : Hid ((sb.put u.n (vi u.x)).places = Q) := (putN_places _ _ _).trans HR.out.pb
        have HNM : Hid ((sa.put u.n (vi u.x)).nums = if P < (moveN u.n sa.nums).length then (moveN u.n sa.nums).drop ((moveN u.n sa.nums).length - P) else moveN u.n sa.nums) := ena.trans (law_put HR.out.two.facts.1.1 hnl hP1)
        generalize hsa1 : sa.put u.n (vi u.x) = sa1 at *
        generalize hsb1 : sb.put u.n (vi u.x) = sb1 at *
        have HFW : Hid (U ≤ 2 * k) := HR.out.few
        clear hsa1 hsb1 ena enb hq4 hq5 HR
        generalize hln : sa.nums = ln at *
        clear hln
        go_wp2_with fail
        go_loopw [19, 20] (fun nv kv wx => ∃ m : Nat, m ≤ ln.length ∧ kv = .int .i64 m ∧ NewI w5.heap.size wx nv ((ln.take m).filter (fun x => x != u.n)) ∧ Below w5.heap.size w5 wx) (fun _ kv _ => ln.length - (intOf kv).toNat)
        case atStart => exact ⟨0, Nat.zero_le _, rfl, World.ownsRow_nil _ _ _ _, Below.refl _ _⟩
        case round =>
          obtain ⟨m, hm, rfl, hnew, hbl⟩ := hrel
          have hfl : ((ln.take m).filter (fun x => x != u.n)).length ≤ 40 := Nat.le_trans (List.length_filter_le _ _) (by simp; omega)
          by_cases hml : m < ln.length
          · have hmz : (m : Int) < (ln.length : Int) := by omega
            obtain ⟨y, hy⟩ : ∃ y, ln[m]? = some y := ⟨_, List.getElem?_eq_getElem hml⟩
            obtain ⟨gl, ol, rfl, hgl, y0'⟩ := row_at HRW.out hy
            have y0 := (hbl.cell (p := ⟨gl, ol + m, none⟩) hgl).trans y0'
            have HST : Hid ((ln.take (m + 1)).filter (fun x => x != u.n) = (ln.take m).filter (fun x => x != u.n) ++ if y = u.n then [] else [y]) := filter_step hy u.n
            have HNW : Hid (NewI w5.heap.size wr u19 ((ln.take m).filter (fun x => x != u.n))) := hnew
            have HBL : Hid (Below w5.heap.size w5 wr) := hbl
            have hfz : ((ln.take m).filter (fun x => x != u.n)).length ≤ 40 := hfl
            clear hnew hbl hy y0' hfl
            generalize hfi : (ln.take m).filter (fun x => x != u.n) = fl at *
            clear hfi
            by_cases e : y = u.n
            · have he : (y != u.n) = false := by simpa using e
              go_wp2_with fail
              exact ⟨⟨m + 1, by omega, by go_num, by rw [HST.out, if_pos e, List.append_nil]; exact HNW.out, HBL.out⟩, by simp [intOf]; omega⟩
            · have he : (y != u.n) = true := by simpa using e
              have HV : Hid (NewI w5.heap.size (wr.alloc (.cells #[.int .i64 y] 3)) u19 fl) := own_here HNW.out (below_new _ _)
              have HB2 : Hid (Below w5.heap.size w5 (wr.alloc (.cells #[.int .i64 y] 3))) := HBL.out.alloc HBL.out.size _
              have HFZ : Hid (fl.length ≤ 40) := hfz
              clear hfz
              go_wp2_with (at_builtin
                           refine wpList_append_int rfl _ _ rfl w5.heap.size u19 fl y rfl HV.out wr.heap.size rfl (heap_alloc_last wr _) (by have := HFZ.out; omega) (Below.size HB2.out) ?_
                           intro v6 w6 hv6 _ hk6
                           have HV6 : Hid (NewI w5.heap.size w6 v6 (fl ++ [y])) := hv6
                           have HB6 : Hid (Below w5.heap.size w5 w6) := Below.trans HB2.out hk6.low
                           clear hv6 hk6)
              exact ⟨⟨m + 1, by omega, by go_num, by rw [HST.out, if_neg e]; exact HV6.out, HB6.out⟩, by simp [intOf]; omega⟩
          · have hmz : ¬ (m : Int) < (ln.length : Int) := by omega
            rw [List.take_of_length_le (by omega)] at hnew hfl
            have HMV : Hid (moveN u.n ln = ln.filter (fun x => x != u.n) ++ [u.n]) := rfl
            have HV : Hid (NewI w5.heap.size (wr.alloc (.cells #[.int .i64 u.n] 3)) u19 (ln.filter (fun x => x != u.n))) := own_here hnew (below_new _ _)
            have HB2 : Hid (Below w5.heap.size w5 (wr.alloc (.cells #[.int .i64 u.n] 3))) := hbl.alloc hbl.size _
            have HFZ : Hid ((ln.filter (fun x => x != u.n)).length ≤ 40) := hfl
            clear hnew hbl hfl hml hm
            go_upto_region 28 with (
              at_builtin
              refine wpList_append_int rfl _ _ rfl w5.heap.size u19 (ln.filter (fun x => x != u.n)) u.n rfl HV.out wr.heap.size rfl (heap_alloc_last wr _) (by have := HFZ.out; omega) (Below.size HB2.out) ?_
              intro v6 w6 hv6 _ hk6
              have hv6' : NewI w5.heap.size w6 v6 (moveN u.n ln) := hv6
              have HML : Hid ((moveN u.n ln).length ≤ 41) := (show (moveN u.n ln).length ≤ 41 by have := HFZ.out; unfold moveN; simp; omega)
              obtain ⟨g6, c6, rfl, hg6⟩ : ∃ g c, v6 = .slice (some ⟨g, 0, none⟩) (moveN u.n ln).length c ∧ (moveN u.n ln).length ≤ c := by
                rcases hv6'.2 with ⟨_, h0⟩ | ⟨g, cap, cur, e, hb, hg, hc, _⟩
                · exfalso; unfold moveN at h0; simp at h0
                · exact ⟨g, cap, e, hc⟩
              have HV6 : Hid (NewI w5.heap.size w6 (.slice (some ⟨g6, 0, none⟩) (moveN u.n ln).length c6) (moveN u.n ln)) := hv6'
              have HT6 : Hid (Two w.heap.size (U + 1 + 1) w w6 ca cb sa1 sb1) := HTW.out.below (Below.trans HB2.out hk6.low) (Nat.le_refl _)
              generalize hmv : moveN u.n ln = mv at *
              have hmlz : (mv.length : Int) ≤ 41 := by have := HML.out; omega
              clear hv6 hv6' hk6 hmv)
            clear HMV HV HB2 HFZ HRW HTW
            by_cases hgt : P < mv.length
            · have hgz : (P : Int) < (mv.length : Int) := by omega
              obtain ⟨lo, hlo⟩ : ∃ lo, lo = mv.length - P := ⟨_, rfl⟩
              have hloz : (mv.length : Int) - (P : Int) = (lo : Int) := by omega
              have hlo1 : lo < mv.length := by omega
              have hlo2 : ¬ c6 = lo := by omega
              have hlo3 : lo ≤ c6 := by omega
              have hlo4 : (lo : Int) ≤ (mv.length : Int) := by omega
              have HIR : Hid (IntRow w6 (.slice (some ⟨g6, lo, none⟩) (mv.length - lo) (c6 - lo)) (mv.drop lo)) := IntRow.tail HV6.out lo hlo1
              have HNM1 : Hid (sa1.nums = mv.drop lo) := by
                show _ = _
                rw [HNM.out, if_pos hgt, hlo]
              clear hlo
              have HLN : Hid ((mv.drop lo).length = mv.length - lo) := List.length_drop ..
              have HNU := numbers_a HT6.out
              rw [HNM1.out] at HNU
              clear HNM HV6
              go_wp2_with fail
              refine HNU.mono ?_
              rintro r w7 ⟨v7, rfl, hn7, hb7⟩
              have HT7 : Hid (Two w.heap.size (U + 1 + 1) w w7 ca cb sa1 sb1) := HT6.out.below hb7 (Nat.le_refl _)
              have HI7 : Hid (IntRow w7 (.slice (some ⟨g6, lo, none⟩) (mv.length - lo) (c6 - lo)) (mv.drop lo)) := HIR.out.still (Still.below hb7)
              have HSM := sameInts_any (IntRow.own hn7).at HI7.out.at (by have := HML.out; simp; omega)
              rw [decide_eq_true rfl] at HSM
              clear HNU hn7 hb7
              go_wp2_with fail
              refine HSM.mono ?_
              rintro r w8 ⟨rfl, q8, hw8⟩
              clear HSM
              have HT8 : Hid (Two w.heap.size (U + 1 + 1) w w8 ca cb sa1 sb1) := by rw [hw8]; exact HT7.out.below (below_draws (Below.refl _ _) _) (Nat.le_refl _)
              have HI8 : Hid (IntRow w8 (.slice (some ⟨g6, lo, none⟩) (mv.length - lo) (c6 - lo)) (mv.drop lo)) := by rw [hw8]; exact HI7.out.still (Still.drewN _ _)
              clear hw8
              have HCA : Hid (Calls Try.prog 17 #[ptr ca] w8 fun r w' => r = .returned (.int .i64 ((mv.length - lo : Nat) : Int)) ∧ w' = w8) := by
                have h1 := count_a HT8.out
                have e1 : sa1.L.length = mv.length - lo := by
                  have : sa1.nums.length = sa1.L.length := by simp [Ca.nums]
                  rw [← this, HNM1.out]
                  exact HLN.out
                rw [e1] at h1
                exact h1
              have HCB : Hid (Calls Try.prog 17 #[ptr cb] w8 fun r w' => r = .returned (.int .i64 (sb1.L.length : Int)) ∧ w' = w8) := count_b HT8.out
              have hcb : ¬ (Q : Int) < (sb1.L.length : Int) := by have h1 := HT8.out.facts.2.2.1; rw [HPB.out] at h1; omega
              go_wp2_with (first
                | (go_at_call_of 17 (ptr ca); refine Calls.mono HCA.out ?_; rintro r w9 ⟨rfl, hw9⟩; obtain rfl := hw9.symm; clear hw9)
                | (go_at_call_of 17 (ptr cb); refine Calls.mono HCB.out ?_; rintro r w9 ⟨rfl, hw9⟩; obtain rfl := hw9.symm; clear hw9))
              exact ⟨⟨k + 1, sa1, sb1, U + 1 + 1, by omega, by go_num, ⟨HT8.out, by rw [HNM1.out]; exact HI8.out, HLA.out, HLB.out, HAM.out, HPA.out, HPB.out, by have := HFW.out; omega⟩⟩, by simp [intOf]; omega⟩
            · have hgz : ¬ (P : Int) < (mv.length : Int) := by omega
              have HIR : Hid (IntRow w6 (.slice (some ⟨g6, 0, none⟩) mv.length c6) mv) := IntRow.own HV6.out
              have HNM1 : Hid (sa1.nums = mv) := by
                show _ = _
                rw [HNM.out, if_neg hgt]
              have HNU := numbers_a HT6.out
              rw [HNM1.out] at HNU
              clear HNM HV6
              go_wp2_with fail
              refine HNU.mono ?_
              rintro r w7 ⟨v7, rfl, hn7, hb7⟩
              have HT7 : Hid (Two w.heap.size (U + 1 + 1) w w7 ca cb sa1 sb1) := HT6.out.below hb7 (Nat.le_refl _)
              have HI7 : Hid (IntRow w7 (.slice (some ⟨g6, 0, none⟩) mv.length c6) mv) := HIR.out.still (Still.below hb7)
              have HSM := sameInts_any (IntRow.own hn7).at HI7.out.at (by have := HML.out; omega)
              rw [decide_eq_true rfl] at HSM
              clear HNU hn7 hb7
              go_wp2_with fail
              refine HSM.mono ?_
              rintro r w8 ⟨rfl, q8, hw8⟩
              clear HSM
              have HT8 : Hid (Two w.heap.size (U + 1 + 1) w w8 ca cb sa1 sb1) := by rw [hw8]; exact HT7.out.below (below_draws (Below.refl _ _) _) (Nat.le_refl _)
              have HI8 : Hid (IntRow w8 (.slice (some ⟨g6, 0, none⟩) mv.length c6) mv) := by rw [hw8]; exact HI7.out.still (Still.drewN _ _)
              clear hw8
              have HCA : Hid (Calls Try.prog 17 #[ptr ca] w8 fun r w' => r = .returned (.int .i64 ((mv.length : Nat) : Int)) ∧ w' = w8) := by
                have h1 := count_a HT8.out
                have e1 : sa1.L.length = mv.length := by
                  have : sa1.nums.length = sa1.L.length := by simp [Ca.nums]
                  rw [← this, HNM1.out]
                rw [e1] at h1
                exact h1
              have HCB : Hid (Calls Try.prog 17 #[ptr cb] w8 fun r w' => r = .returned (.int .i64 (sb1.L.length : Int)) ∧ w' = w8) := count_b HT8.out
              have hcb : ¬ (Q : Int) < (sb1.L.length : Int) := by have h1 := HT8.out.facts.2.2.1; rw [HPB.out] at h1; omega
              go_wp2_with (first
                | (go_at_call_of 17 (ptr ca); refine Calls.mono HCA.out ?_; rintro r w9 ⟨rfl, hw9⟩; obtain rfl := hw9.symm; clear hw9)
                | (go_at_call_of 17 (ptr cb); refine Calls.mono HCB.out ?_; rintro r w9 ⟨rfl, hw9⟩; obtain rfl := hw9.symm; clear hw9))
              exact ⟨⟨k + 1, sa1, sb1, U + 1 + 1, by omega, by go_num, ⟨HT8.out, by rw [HNM1.out]; exact HI8.out, HLA.out, HLB.out, HAM.out, HPA.out, HPB.out, by have := HFW.out; omega⟩⟩, by simp [intOf]; omega⟩
    · have hltz : ¬ (k : Int) < (L.length : Int) := by omega
      go_wp2_with fail
      go_ret
      exact ⟨rfl, HR.out.two.low⟩
end Go.Proofs.Yteajgodpdfcioaa
