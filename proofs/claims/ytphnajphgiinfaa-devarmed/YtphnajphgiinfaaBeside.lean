/- Several devices side by side; what a copy, a Restart without fates, a Flip, a look and Pending do, told of their states alone. -/
import Derived.Test.YtphnajphgiinfaaPlayed
namespace Go.Proofs.Ytphnajphgiinfaa
open Go.RowKit Go.Maps Go.MuLone Go.Sort

def Apart (b : Nat) (s : St) (b' : Nat) (s' : St) : Prop := ∀ i, Own b s i → ¬ Own b' s' i
theorem Apart.symm {b b' : Nat} {s s' : St} (h : Apart b s b' s') : Apart b' s' b s := fun i hi hj => h i hj hi

theorem Mine.kept {N k : Nat} {S : Nat → Prop} {w w' : World} {b b' : Nat} {s s' : St} {a : Ab} (h : Mine N w b s a k) (hd : DevIs 0 65536 w b' s') (hS : ∀ i, S i → Own b' s' i) (hk : Kept S w w') (hap : Apart b s b' s') : Mine N w' b s a k :=
  ⟨h.dev.kept hk (fun i hi hs => hap i hi (hS i hs)) (fun g hg _ hs => hd.own_not_bytes (hS g hs) hg), h.ab, h.good, h.own⟩
theorem Mine.below {N k : Nat} {w w' : World} {b : Nat} {s : St} {a : Ab} (h : Mine N w b s a k) (hb : Below w.heap.size w w') : Mine N w' b s a k := ⟨h.dev.below hb, h.ab, h.good, h.own⟩
theorem Mine.more {N k k' : Nat} {w : World} {b : Nat} {s : St} {a : Ab} (h : Mine N w b s a k) (hk : k ≤ k') : Mine N w b s a k' := ⟨h.dev, h.ab, h.good.mono hk, h.own⟩
theorem Apart.next {w : World} {b b' : Nat} {s s' t : St} (h : Apart b s b' s') (hd : DevIs 0 65536 w b' s') (ho : ∀ i, Own b t i → Own b s i ∨ w.heap.size ≤ i) : Apart b t b' s' := fun i hi hj =>
  (ho i hi).elim (fun x => h i x hj) (fun x => by have := hd.own_lt hj; omega)

theorem copy_mine {N k : Nat} {w : World} {b : Nat} {s : St} {a : Ab} (h : Mine N w b s a k) (hN : N ≤ w.heap.size) (hk : k ≤ 1099511627776) :
    Calls Try.prog 19 #[.pointer (some ⟨b, 0, none⟩)] w fun e w' => ∃ b2 s2, e = .returned (.pointer (some ⟨b2, 0, none⟩)) ∧ Mine N w' b s a k ∧ Mine N w' b2 s2 a k ∧ (∀ i, Own b2 s2 i → w.heap.size ≤ i) ∧ Kept (fun k => k = b) w w' := by
  have hg : s.ab.good k := by rw [h.ab]; exact h.good
  refine (copy_any 65536 w b s h.dev (by decide) (fun n => Nat.le_trans (hg.2.2 n) hk)).mono ?_
  rintro e w' ⟨b2, mL, mW, D, rfl, h1, h2, h3, h4⟩
  exact ⟨b2, _, rfl, ⟨h1, h.ab, h.good, h.own⟩, ⟨h2, h.ab, h.good, fun i hi => Nat.le_trans hN (h3 i hi)⟩, h3, h4⟩

/-- The power comes back, and nothing that waited is kept. -/
def Ab.lost (a : Ab) : Ab := { a with waits := fun _ => [], off := false, ch := 0, how := 0, done := false }
theorem met_nil (a : Ab) (K : List Int) (k : Nat) : a.met K [] k = a.lasts := by
  induction k with
  | zero => rfl
  | succ k ih =>
    funext m
    simp only [Ab.met]
    split
    · rename_i hf; simp at hf
    · rw [ih]
theorem good_lost {a : Ab} {k : Nat} (h : a.good k) : a.lost.good k := ⟨h.1, fun _ hn => absurd rfl hn, fun _ => Nat.zero_le _⟩
theorem lost_mine {N k : Nat} {w : World} {b : Nat} {s : St} {a : Ab} (h : Mine N w b s a k) (hN : N ≤ w.heap.size) (hk : k ≤ 1099511627776) :
    Calls Try.prog 15 #[.pointer (some ⟨b, 0, none⟩), .slice none 0 0] w fun e w' => ∃ t, e = .returned (.tuple #[]) ∧ Mine N w' b t a.lost k ∧ Kept (Own b s) w w' ∧ ∀ i, Own b t i → Own b s i ∨ w.heap.size ≤ i := by
  have hg : s.ab.good k := by rw [h.ab]; exact h.good
  refine (restart_any 65536 w b s h.dev (by decide) none [] 0 (fun i f hf => by simp at hf) (fun n => Nat.le_trans (hg.2.2 n) hk)).mono ?_
  rintro e w' ⟨m, D, rfl, hm, hd', hk'⟩
  have hab : (s.restart [] m D).ab = a.lost := by
    show (⟨s.size, s.blocks, false, 0, 0, false, metTo s (intKeys s.DW) [] (intKeys s.DW).length, fun _ => []⟩ : Ab) = a.lost
    rw [met_ab, met_nil, ← h.ab]
    rfl
  have hown : ∀ i, Own b (s.restart [] m D) i → Own b s i ∨ w.heap.size ≤ i := fun i hi => by
    rcases hi with e | e | e | ⟨n, v, hv, _⟩
    · exact .inl (.inl e)
    · exact .inl (.inr (.inl e))
    · exact .inr (by rw [show i = m from e]; exact hm)
    · have := valAt_has hv
      simp [St.restart, Maps.has] at this
  refine ⟨_, rfl, ⟨hd'.tight (k := k) (by rw [hab]; exact good_lost h.good), hab, good_lost h.good, fun i hi => (hown i hi).elim (h.own i) (fun x => Nat.le_trans hN x)⟩, hk'.mono (fun i _ x => x.elim (fun e => .inl e) (fun e => .inr (.inl e))), hown⟩

theorem flip_mine {N k : Nat} {w : World} {b : Nat} {s : St} {a : Ab} (h : Mine N w b s a k) (hk : k ≤ 1099511627776) (hoff : a.off = false) (n : Int) (hn : (Lit.int .i64 n).wf = true) (hr : inRange n a.blocks = true) (j : Nat) (hj : j < a.size) (x : UInt8) :
    Calls Try.prog 23 #[.pointer (some ⟨b, 0, none⟩), .int .i64 n, .int .i64 j, .int .u8 (x.toNat : Int)] w fun e w' => ∃ t, e = .returned (.int .i64 (a.flipped n j x).2) ∧ Mine N w' b t (a.flipped n j x).1 k ∧ Kept (Own b s) w w' ∧ ∀ i, Own b t i → Own b s i := by
  obtain ⟨hd, rfl, hg, hown⟩ := h
  have hg2 := good_flipped hg hr j x
  have hr2 : inRange (j : Int) s.size = true := by
    have : j < s.size := hj
    simp [inRange]
    omega
  unfold Ab.flipped at *
  have es : s.ab.shows n = shows s n := rfl
  rw [es] at hg2 ⊢
  cases hsh : shows s n with
  | none =>
    exact (flip_bad 65536 w b s hd hoff _ _ _ hn hr hr2 hsh).mono (fun e w' ⟨x1, x2, x3⟩ => ⟨s, x1, ⟨x2, rfl, hg, hown⟩, x3.mono (fun _ _ x => .inl x), fun _ hi => hi⟩)
  | some bs =>
    rw [hsh] at hg2
    simp only at hg2 ⊢
    have ew : s.ab.waits = s.waits := rfl
    by_cases hw : s.waits n = []
    · rw [ew, if_pos hw] at hg2 ⊢
      exact (flip_last 65536 w b s hd (by decide) hoff _ _ _ hn hr hj bs hsh hw).mono (fun e w' ⟨v, x1, x2, x3⟩ => ⟨_, x1, ⟨x2.tight (k := k) hg2, rfl, hg2, fun i hi => hown i (own_eq rfl rfl rfl _ hi)⟩, x3, fun _ hi => own_eq rfl rfl rfl _ hi⟩)
    · rw [ew, if_neg hw] at hg2 ⊢
      exact (flip_wait 65536 w b s hd hoff _ _ _ hn hr hj bs hsh hw (Nat.le_trans (hg.2.2 n) hk)).mono (fun e w' ⟨x1, x2, x3⟩ => ⟨_, x1, ⟨x2.tight (k := k) hg2, rfl, hg2, fun i hi => hown i (own_eq rfl rfl rfl _ hi)⟩, x3, fun _ hi => own_eq rfl rfl rfl _ hi⟩)

/-- What a block shows, as a string; and whether it can be read. -/
def Ab.seen (a : Ab) (n : Int) : ByteArray := match a.shows n with | some bs => strB bs | none => ByteArray.empty
theorem shows_none (c : Nat) (w : World) (b : Nat) (s : St) (hd : DevIs 0 c w b s) (hoff : s.off = false) (n : Int) (hn : (Lit.int .i64 n).wf = true) (hr : inRange n s.blocks = true) (hsh : shows s n = none) :
    Calls Try.prog 17 #[.pointer (some ⟨b, 0, none⟩), .int .i64 n] w fun e w' => e = .returned (.tuple #[.string ByteArray.empty, .bool false]) ∧ DevIs 0 c w' b s ∧ Kept (fun k => k = b) w w' := by
  go_enter Try.func17, Try.ntmps17
  go_wp2_with fail
  refine (read_bad c w b s hd n hn hoff hr hsh).mono ?_
  rintro e w1 ⟨rfl, hd, k⟩
  have hcv : (convert 29 9 (.slice none 0 0)).run Try.prog w1 = .ok (.string ByteArray.empty) w1 := run_convert_bytes_nil w1 29 5 Try.underlying29 Try.underlying5 0 0 9 Try.underlying9
  go_wp2
  go_ret2
  exact ⟨rfl, hd, k⟩
theorem shows_some (c : Nat) (w : World) (b : Nat) (s : St) (hd : DevIs 0 c w b s) (hoff : s.off = false) (n : Int) (hn : (Lit.int .i64 n).wf = true) (hr : inRange n s.blocks = true) (bs : List UInt8) (hsh : shows s n = some bs) :
    Calls Try.prog 17 #[.pointer (some ⟨b, 0, none⟩), .int .i64 n] w fun e w' => e = .returned (.tuple #[.string (strB bs), .bool true]) ∧ DevIs 0 c w' b { s with rd := IntKind.u64.wrap (s.rd + 1) } ∧ Kept (fun k => k = b) w w' := by
  have hs1 := hd.size.1
  go_enter Try.func17, Try.ntmps17
  go_wp2_with fail
  refine (read_ok c w b s hd n hn hoff hr bs hsh).mono ?_
  rintro e w1 ⟨v, rfl, hrow, _, hfin⟩
  have hcv := conv_bytes (row_base hrow (Nat.zero_le _)) hs1
  go_wp2
  go_ret2
  exact ⟨rfl, hfin⟩
theorem shown_mine {N k : Nat} {w : World} {b : Nat} {s : St} {a : Ab} (h : Mine N w b s a k) (hoff : a.off = false) (n : Int) (hn : (Lit.int .i64 n).wf = true) (hr : inRange n a.blocks = true) :
    Calls Try.prog 17 #[.pointer (some ⟨b, 0, none⟩), .int .i64 n] w fun e w' => ∃ t, e = .returned (.tuple #[.string (a.seen n), .bool (a.shows n).isSome]) ∧ Mine N w' b t a k ∧ Kept (fun i => i = b) w w' ∧ ∀ i, Own b t i → Own b s i := by
  obtain ⟨hd, rfl, hg, hown⟩ := h
  unfold Ab.seen
  have es : s.ab.shows n = shows s n := rfl
  rw [es]
  cases hsh : shows s n with
  | none =>
    exact (shows_none 65536 w b s hd hoff n hn hr hsh).mono (fun e w' ⟨x1, x2, x3⟩ => ⟨s, x1, ⟨x2, rfl, hg, hown⟩, x3, fun _ hi => hi⟩)
  | some bs =>
    exact (shows_some 65536 w b s hd hoff n hn hr bs hsh).mono (fun e w' ⟨x1, x2, x3⟩ => ⟨_, x1, ⟨x2, rfl, hg, hown⟩, x3, fun _ hi => hi⟩)

theorem beyond_any (w : World) (a : Option Addr) (n cap size : Nat) (h : size = 512 ∨ size = 1024 ∨ size = 2048 ∨ size = 4096) :
    Calls Try.prog 18 #[.slice a n cap, .int .i64 size] w fun e w' => e = .returned (.bool (decide ((2147483647 / size : Nat) < n))) ∧ w' = w := by
  rcases h with rfl | rfl | rfl | rfl
  all_goals
    go_enter Try.func18, Try.ntmps18
    go_wp2
    go_ret
    refine ⟨?_, rfl⟩
    simp
    try omega

/-! What waits of two devices that are alike. -/
theorem own_shape {w : World} {base e size n : Nat} {v : Value} {xs : List Value} (h : w.ownsRow base e size v n xs) : ∃ a cap, v = .slice a n cap ∧ ∀ (j : Nat) u, xs[j]? = some u → ∃ g, a = some ⟨g, 0, none⟩ ∧ g < w.heap.size ∧ w.cell? ⟨g, j, none⟩ = some u := by
  obtain ⟨hl, hr⟩ := h
  rcases hr with ⟨e1, e2⟩ | ⟨g, cap, cur, e1, _, hg, _, _, _, ht⟩
  · refine ⟨none, 0, by rw [e1, e2], fun j u hj => ?_⟩
    have := (List.getElem?_eq_some_iff.1 hj).1
    rw [hl, e2] at this
    omega
  · refine ⟨_, _, e1, fun j u hj => ⟨g, rfl, (Array.getElem?_eq_some_iff.1 hg).1, ?_⟩⟩
    rw [hdr_cell hg]
    rw [← ht, List.getElem?_take] at hj
    split at hj
    · rw [← Array.getElem?_toList]; exact hj
    · cases hj
theorem pend_at (f : Int → Nat) (K : List Int) (i : Nat) (n : Int) (h : K[i]? = some n) : (K.flatMap fun n => [Value.int .i64 n, .int .i64 (f n)])[i * 2]? = some (.int .i64 n) ∧ (K.flatMap fun n => [Value.int .i64 n, .int .i64 (f n)])[i * 2 + 1]? = some (.int .i64 (f n)) := by
  induction K generalizing i with
  | nil => simp at h
  | cons x r ih =>
    cases i with
    | zero => simp at h; subst h; simp
    | succ i =>
      simp at h
      have := ih i h
      simp only [List.flatMap_cons]
      have e1 : (i + 1) * 2 = i * 2 + 2 := by omega
      rw [e1]
      simpa using this

set_option maxHeartbeats 1000000 in
set_option maxRecDepth 100000 in
theorem sameWaits_any (w : World) (B1 B2 : Nat) (v1 v2 : Value) (f : Int → Nat) (K : List Int) (h1 : w.ownsRow B1 43 2 v1 K.length (K.flatMap fun n => [Value.int .i64 n, .int .i64 (f n)])) (h2 : w.ownsRow B2 43 2 v2 K.length (K.flatMap fun n => [Value.int .i64 n, .int .i64 (f n)])) (hK : K.length ≤ 1099511627776) :
    Calls Try.prog 24 #[v1, v2] w fun e w' => e = .returned (.bool true) ∧ Below w.heap.size w w' := by
  obtain ⟨a1, c1, rfl, hc1⟩ := own_shape h1
  obtain ⟨a2, c2, rfl, hc2⟩ := own_shape h2
  have HC1 : Hid _ := hc1
  have HC2 : Hid _ := hc2
  clear hc1 hc2 h1 h2
  go_enter Try.func24, Try.ntmps24
  go_wp2
  go_loopw [5] (fun i wr => ∃ k : Nat, k ≤ K.length ∧ i = .int .i64 k ∧ Below w.heap.size w wr) (fun i _ => K.length - (intOf i).toNat)
  case atStart => exact ⟨0, Nat.zero_le _, rfl, Below.refl _ _⟩
  case round =>
    obtain ⟨k, hk, rfl, hbe⟩ := hrel
    have HBE : Hid (Below w.heap.size w wr) := hbe
    clear hbe
    by_cases hlt : k < K.length
    · have hkz : (k : Int) < (K.length : Int) := by omega
      obtain ⟨n, hn⟩ : ∃ n, K[k]? = some n := ⟨K[k], List.getElem?_eq_getElem hlt⟩
      obtain ⟨p1, p2⟩ := pend_at f K k n hn
      obtain ⟨g1, e1, l1, d1⟩ := HC1.out _ _ p1
      obtain ⟨g1', e1', _, d2⟩ := HC1.out _ _ p2
      obtain ⟨g2, e2, l2, d3⟩ := HC2.out _ _ p1
      obtain ⟨g2', e2', _, d4⟩ := HC2.out _ _ p2
      subst e1
      subst e2
      cases e1'
      cases e2'
      have q1 : wr.cell? ⟨g1, k * 2, none⟩ = some (.int .i64 n) := by rw [HBE.out.cell l1]; exact d1
      have q2 : wr.cell? ⟨g1, k * 2 + 1, none⟩ = some (.int .i64 (f n)) := by rw [HBE.out.cell l1]; exact d2
      have q3 : wr.cell? ⟨g2, k * 2, none⟩ = some (.int .i64 n) := by rw [HBE.out.cell l2]; exact d3
      have q4 : wr.cell? ⟨g2, k * 2 + 1, none⟩ = some (.int .i64 (f n)) := by rw [HBE.out.cell l2]; exact d4
      clear d1 d2 d3 d4 p1 p2 hn
      go_wp2
      go_region
      go_wp2
      exact ⟨⟨k + 1, by omega, by go_num, HBE.out.drew⟩, by simp [intOf]; omega⟩
    · obtain rfl : k = K.length := by omega
      go_wp2
      go_ret
      exact ⟨rfl, HBE.out⟩
end Go.Proofs.Ytphnajphgiinfaa
