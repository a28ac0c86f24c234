/- The chapter's example: the law's own function 'shown' answers true. -/
import Derived.Test.YteajgodpdfcioaaLists
import Derived.Test.YteajgodpdfcioaaSame
namespace Go.Proofs.Yteajgodpdfcioaa
open Go.RowKit Go.Maps

/-- A cache all of whose blocks are new. -/
def Mine (B U : Nat) (w : World) (c : Nat) (s : Ca Value) : Prop := ∃ own, CacheAt U own w c s ∧ ∀ k, own k → B ≤ k
theorem Next.mine {B U : Nat} {own : Nat → Prop} {w0 w w' : World} {c : Nat} {s : Ca Value} (h : Next U own w c s w') (ho : ∀ k, own k → B ≤ k) (hb : Below B w0 w) (hB : B ≤ w.heap.size) : Hid (Mine B (U + 1) w' c s ∧ Below B w0 w') := by
  obtain ⟨own', h1, h2, h3⟩ := h
  exact ⟨⟨own', h1, fun k hk => (h2 k hk).elim (ho k) (fun x => Nat.le_trans hB x)⟩, Kept.below hb h3 hB ho⟩
theorem put_mine {B U : Nat} {w0 w : World} {c : Nat} {s s' : Ca Value} {z : Int} {t : Bool} (h : Hid (Mine B U w c s ∧ Below B w0 w)) (hB : B ≤ w0.heap.size) {n x : Int} (hn : (Lit.int .i64 n).wf = true) (hU : U < 4611686018427387904) (hs : s.put n (.int .i64 x) = s') (hw : s.went n = (z, t)) :
    Calls Try.prog 14 #[ptr c, .int .i64 n, .int .i64 x] w fun r w' => r = .returned (.tuple #[.int .i64 z, .bool t]) ∧ Hid (Mine B (U + 1) w' c s' ∧ Below B w0 w') := by
  obtain ⟨⟨own, h1, h2⟩, h3⟩ := h.out
  refine (put_any h1 hn ⟨x, rfl⟩ hU).mono ?_
  rw [hs, hw]
  rintro r w' ⟨rfl, hx⟩
  exact ⟨rfl, hx.mine h2 h3 (Nat.le_trans hB h3.size)⟩
theorem get_mine {B U : Nat} {w0 w : World} {c : Nat} {s s' : Ca Value} {v : Value} {t : Bool} (h : Hid (Mine B U w c s ∧ Below B w0 w)) (hB : B ≤ w0.heap.size) {n : Int} (hn : (Lit.int .i64 n).wf = true) (hU : U < 4611686018427387904) (hs : s.get n = s') (hv : s.tells n = v) (hw : s.has n = t) :
    Calls Try.prog 13 #[ptr c, .int .i64 n] w fun r w' => r = .returned (.tuple #[v, .bool t]) ∧ Hid (Mine B (U + 1) w' c s' ∧ Below B w0 w') := by
  obtain ⟨⟨own, h1, h2⟩, h3⟩ := h.out
  refine (get_any h1 hn hU).mono ?_
  rw [hs, hw, hv]
  rintro r w' ⟨rfl, hx⟩
  exact ⟨rfl, hx.mine h2 h3 (Nat.le_trans hB h3.size)⟩
abbrev vi (n : Int) : Value := .int .i64 n
set_option maxHeartbeats 800000 in
set_option maxRecDepth 100000 in
theorem shown_any (w : World) : Calls Try.prog 7 #[] w fun e w' => e = .returned (.bool true) ∧ Below w.heap.size w w' := by
  go_enter Try.func7, Try.ntmps7
  go_wp2_with fail
  refine (new_ok w 2 (by decide) (by decide)).mono ?_
  rintro r w1 ⟨rfl, h1, hb1, _⟩
  have H1 : Hid (Mine w.heap.size 0 w1 (w.heap.size + 2) ⟨2, 0, 0, []⟩ ∧ Below w.heap.size w w1) := ⟨⟨_, h1, fun k hk => hk.1⟩, hb1⟩
  clear h1 hb1
  go_wp2_with fail
  refine (put_mine (n := 1) (x := 10) (z := 0) (t := false) (s' := ⟨2, 0, 0, [⟨1, vi 10, 0⟩]⟩) H1 (Nat.le_refl _) (by decide) (by decide) rfl rfl).mono ?_
  rintro r w2 ⟨rfl, H2⟩
  clear H1
  go_wp2_with fail
  refine (put_mine (n := 2) (x := 20) (z := 0) (t := false) (s' := ⟨2, 0, 0, [⟨1, vi 10, 0⟩, ⟨2, vi 20, 0⟩]⟩) H2 (Nat.le_refl _) (by decide) (by decide) rfl rfl).mono ?_
  rintro r w3 ⟨rfl, H3⟩
  clear H2
  go_wp2_with fail
  refine (get_mine (n := 1) (v := vi 10) (t := true) (s' := ⟨2, 1, 0, [⟨2, vi 20, 0⟩, ⟨1, vi 10, 0⟩]⟩) H3 (Nat.le_refl _) (by decide) (by decide) rfl rfl rfl).mono ?_
  rintro r w4 ⟨rfl, H4⟩
  clear H3
  go_wp2_with fail
  refine (put_mine (n := 3) (x := 30) (z := 2) (t := true) (s' := ⟨2, 1, 0, [⟨1, vi 10, 0⟩, ⟨3, vi 30, 0⟩]⟩) H4 (Nat.le_refl _) (by decide) (by decide) rfl rfl).mono ?_
  rintro r w5 ⟨rfl, H5⟩
  clear H4
  go_wp2_with fail
  have HC : Hid (Calls Try.prog 17 #[ptr (w.heap.size + 2)] w5 fun r w' => r = .returned (.int .i64 2) ∧ w' = w5) := by
    obtain ⟨⟨own, h1, _⟩, _⟩ := H5.out
    exact count_any h1
  refine Calls.mono HC.out ?_
  rintro r w6 ⟨rfl, hw6⟩
  obtain rfl := hw6.symm
  go_wp2_with fail
  go_ret
  exact ⟨rfl, H5.out.2⟩
set_option maxRecDepth 100000 in
theorem cacheNames_any (w : World) : Calls Try.prog 3 #[] w fun e w' => e = .returned (.bool true) ∧ Below w.heap.size w w' := by
  go_enter Try.func3, Try.ntmps3
  go_wp2_with fail
  refine (shown_any w).mono ?_
  rintro r w1 ⟨rfl, hb⟩
  go_wp2_with fail
  go_ret
  exact ⟨rfl, hb⟩
end Go.Proofs.Yteajgodpdfcioaa
