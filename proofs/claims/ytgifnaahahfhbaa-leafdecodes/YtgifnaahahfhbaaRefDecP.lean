/- The document's Decode: what it reads; told. -/
import Derived.Test.YtgifnaahahfhbaaDec
import Derived.Test.YtgifnaahahfhbaaCopiesE
import Derived.Test.YtgifnaahahfhbaaRefEncW
namespace Go.Proofs.Ytgifnaahahfhbaa
open Go.RowKit

/-- What is read, whether or not it is written as it should be. -/
def readP : Nat → Key → Key → Option (List En × Key)
  | 0, _, b => some ([], b)
  | n + 1, p, b =>
    match read1 p b with
    | none => none
    | some (_, e, r) => (readP n e.k r).map fun x => (e :: x.1, x.2)
theorem readF_P : ∀ (n : Nat) (p b : Key) (x : List En × Key), readF n p b = some x → readP n p b = some x
  | 0, p, b, x, h => h
  | n + 1, p, b, x, h => by
    rw [readF] at h
    rw [readP]
    cases hr : read1 p b with
    | none => rw [hr] at h; simp at h
    | some y =>
      obtain ⟨s, e, r⟩ := y
      rw [hr] at h
      simp only at h ⊢
      split at h
      · cases hq : readF n e.k r with
        | none => rw [hq] at h; simp at h
        | some q =>
          rw [hq] at h
          rw [readF_P n e.k r q hq]
          exact h
      · cases h
theorem readP_none {N k : Nat} {p rest b2 : Key} {l : List En} (hk : k < N) (h : readP N [] b2 = (readP (N - k) p rest).map fun x => (l ++ x.1, x.2)) (hn : read1 p rest = none) : readP N [] b2 = none := by
  obtain ⟨m, hm⟩ : ∃ m, N - k = m + 1 := ⟨N - k - 1, by omega⟩
  rw [h, hm, readP, hn]
  rfl
theorem readP_next {N k : Nat} {p rest b2 r' : Key} {l : List En} {s : Nat} {e : En} (hk : k < N) (h : readP N [] b2 = (readP (N - k) p rest).map fun x => (l ++ x.1, x.2)) (hr : read1 p rest = some (s, e, r')) : readP N [] b2 = (readP (N - (k + 1)) e.k r').map fun x => ((l ++ [e]) ++ x.1, x.2) := by
  obtain ⟨m, hm⟩ : ∃ m, N - k = m + 1 := ⟨N - k - 1, by omega⟩
  have hm2 : N - (k + 1) = m := by omega
  rw [h, hm, readP, hr, hm2]
  simp [Function.comp_def]
theorem decP_none {z : Int} {b : Key} (h : readP (num2 b) [] (b.drop 2) = none) : decE z b = none := by
  unfold decE
  split
  · rfl
  · cases hr : readF (num2 b) [] (b.drop 2) with
    | none => rfl
    | some x =>
      rw [readF_P _ _ _ _ hr] at h
      cases h
theorem decP_some {z : Int} {b r : Key} {l : List En} (hz : Sized z) (h : readP (num2 b) [] (b.drop 2) = some (l, r)) : decE z b = if checkE z l = 0 ∧ encE l = b then some l else none := by
  by_cases hc : checkE z l = 0 ∧ encE l = b
  · rw [if_pos hc]
    exact (decE_iff hz).2 hc
  · rw [if_neg hc]
    cases hd : decE z b with
    | none => rfl
    | some l' =>
      exfalso
      have h1 := (decE_iff hz).1 hd
      have h2 : l' = l := by
        unfold decE at hd
        split at hd
        · cases hd
        · cases hr : readF (num2 b) [] (b.drop 2) with
          | none => rw [hr] at hd; cases hd
          | some x =>
            have hp := readF_P _ _ _ _ hr
            rw [h] at hp
            cases hp
            rw [hr] at hd
            cases r with
            | nil =>
              simp only at hd
              split at hd
              · exact (Option.some.inj hd).symm
              · cases hd
            | cons y t => cases hd
      rw [h2] at h1
      exact hc h1

theorem told_num (x y : UInt8) (t : Key) : (256 * (x.toNat : Int) + (y.toNat : Int)) = (num2 (x :: y :: t) : Nat) := by
  simp [num2]
set_option maxHeartbeats 800000 in
set_option maxRecDepth 100000 in
theorem told_any {w : World} {v : Value} {r : Key} (hv : KeyAt w v r) (hn : 2 ≤ r.length) : Calls Try.prog 46 #[v] w fun e w' => e = .returned (.int .i64 (num2 r : Nat)) ∧ ∃ q, w' = w.drewN q := by
  obtain ⟨x, y, t, rfl⟩ : ∃ x y t, r = x :: y :: t := by
    rcases r with _ | ⟨x, _ | ⟨y, t⟩⟩
    · simp at hn
    · simp at hn
    · exact ⟨x, y, t, rfl⟩
  have hx := x.toNat_lt
  have hy := y.toNat_lt
  obtain ⟨g, off, c, rfl, c0⟩ := hv.in.byte 0 x rfl
  obtain ⟨g', off', c', e1, c1⟩ := hv.in.byte 1 y rfl
  cases e1
  rw [Nat.add_zero] at c0
  have n0 : (0 : Int) < ((x :: y :: t).length : Int) := by simp; omega
  have n1 : (1 : Int) < ((x :: y :: t).length : Int) := by simp; omega
  have HT : Hid _ := told_num x y t
  generalize (x :: y :: t).length = m at n0 n1
  clear hv hn
  go_enter Try.func46, Try.ntmps46
  go_wp2_with fail
  go_quiet (fail)
  go_wp2
  rw [HT.out]
  go_ret
  exact ⟨rfl, _, rfl⟩
end Go.Proofs.Ytgifnaahahfhbaa
