/- What an armed device does beside one that is not: told of their states alone; the law's small functions for it. -/
import Derived.Test.YtphnajphgiinfaaApart
namespace Go.Proofs.Ytphnajphgiinfaa
open Go.RowKit Go.Maps Go.MuLone Go.Sort

def Ab.armed (a : Ab) (v how : Int) (dn : Bool) : Ab := { a with ch := v, how := how, done := dn }
structure Quiet (a : Ab) : Prop where
  off : a.off = false
  ch : a.ch = 0

theorem quiet_ends {Q R : Ab} (hq : Quiet Q) (hr : Quiet R) : Q.ends R = (R, 0) := by
  unfold Ab.ends
  rw [hq.ch]
  have e : R.ticked = R := by
    cases R
    have h : _ = (0 : Int) := hr.ch
    simp only at h
    subst h
    simp [Ab.ticked, wrap64]
    omega
  simp [e]
theorem armed_ends (Q R : Ab) (v how : Int) (dn : Bool) (hv : 2 ≤ v) (hv2 : v ≤ 2199023255552) : (Q.armed v how dn).ends (R.armed v how dn) = (R.armed (v - 1) how dn, 0) := by
  unfold Ab.ends
  have h1 : ((Q.armed v how dn).ch == 1) = false := by
    show (v == 1) = false
    rw [beq_eq_false_iff_ne]; omega
  rw [h1]
  simp only [Bool.false_eq_true, if_false]
  have e : (R.armed v how dn).ticked = R.armed (v - 1) how dn := by
    have hm : max (wrap64 (v - 1)) 0 = v - 1 := by unfold wrap64; omega
    show ({ R with ch := max (wrap64 (v - 1)) 0, how := how, done := dn } : Ab) = _
    rw [hm]
    rfl
  rw [e]
theorem armed_fires (Q R : Ab) (how : Int) (dn : Bool) : (Q.armed 1 how dn).ends (R.armed 1 how dn) = ((if dn then R.armed 1 how dn else Q.armed 1 how dn).fired, if how == 1 then 13 else 12) := rfl

/-- What a step that changes is, and what it is to an armed device. -/
def Changes (Q R : Ab) (o : OpA) : Prop := (o.kind = 3 ∧ inRange o.A Q.blocks = true ∧ R = Q.wrote o.A (madeOf Q.size o.v o.T)) ∨ (o.kind = 4 ∧ R = Q.settled)
theorem step_two (Q : Ab) (hq : Quiet Q) (o : OpA) (hk : o.kind = 3 ∨ o.kind = 4 ∨ o.kind = 8) :
    (∃ R e, Quiet R ∧ Q.step o = (R, e) ∧ (∀ v how dn, (Q.armed v how dn).step o = (R.armed v how dn, e)) ∧ (e ≠ 0 ∨ o.kind = 8)) ∨
    (∃ R, Quiet R ∧ Q.step o = (R, 0) ∧ (∀ v how dn, (Q.armed v how dn).step o = (Q.armed v how dn).ends (R.armed v how dn)) ∧ Changes Q R o) := by
  have hoff : Q.off = false := hq.off
  have hoffA : ∀ v how dn, (Q.armed v how dn).off = false := fun _ _ _ => hoff
  rcases hk with h | h | h
  · cases hr : inRange o.A Q.blocks with
    | false =>
      refine .inl ⟨Q, 11, hq, ?_, fun v how dn => ?_, .inl (by decide)⟩
      · unfold Ab.step
        rw [if_pos h, hoff]
        simp [hr]
      · unfold Ab.step
        rw [if_pos h, hoffA]
        have hr2 : inRange o.A (Q.armed v how dn).blocks = false := hr
        simp [hr2]
    | true =>
      have hR : Quiet (Q.wrote o.A (madeOf Q.size o.v o.T)) := ⟨hq.off, hq.ch⟩
      refine .inr ⟨_, hR, ?_, fun v how dn => ?_, .inl ⟨h, hr, rfl⟩⟩
      · unfold Ab.step
        rw [if_pos h, hoff]
        simp only [Bool.false_eq_true, if_false, hr]
        exact quiet_ends hq hR
      · unfold Ab.step
        rw [if_pos h, hoffA]
        have hr2 : inRange o.A (Q.armed v how dn).blocks = true := hr
        simp only [Bool.false_eq_true, if_false, hr2]
        rfl
  · have h3 : ¬ o.kind = 3 := by omega
    have hR : Quiet Q.settled := ⟨hq.off, hq.ch⟩
    refine .inr ⟨_, hR, ?_, fun v how dn => ?_, .inr ⟨h, rfl⟩⟩
    · unfold Ab.step
      rw [if_neg h3, if_pos h, hoff]
      simp only [Bool.false_eq_true, if_false]
      exact quiet_ends hq hR
    · unfold Ab.step
      rw [if_neg h3, if_pos h, hoffA]
      simp only [Bool.false_eq_true, if_false]
      rfl
  · have h3 : ¬ o.kind = 3 := by omega
    have h4 : ¬ o.kind = 4 := by omega
    have h5 : ¬ o.kind = 5 := by omega
    have h7 : ¬ o.kind = 7 := by omega
    have eQ : Q.step o = (if inRange o.A Q.blocks = false ∨ inRange o.B Q.size = false then (Q, 11) else Q.flipped o.A o.B.toNat o.v) := by
      unfold Ab.step
      rw [if_neg h3, if_neg h4, if_neg h5, if_neg h7, if_pos h, hoff]
      simp
    have eA : ∀ v how dn, (Q.armed v how dn).step o = (if inRange o.A Q.blocks = false ∨ inRange o.B Q.size = false then (Q.armed v how dn, 11) else (Q.armed v how dn).flipped o.A o.B.toNat o.v) := fun v how dn => by
      unfold Ab.step
      rw [if_neg h3, if_neg h4, if_neg h5, if_neg h7, if_pos h, hoffA]
      simp only [Bool.false_eq_true, if_false]
      rfl
    by_cases hr : inRange o.A Q.blocks = false ∨ inRange o.B Q.size = false
    · exact .inl ⟨Q, 11, hq, by rw [eQ, if_pos hr], fun v how dn => by rw [eA, if_pos hr], .inr h⟩
    · have hf : Quiet (Q.flipped o.A o.B.toNat o.v).1 ∧ ∀ v how dn, (Q.armed v how dn).flipped o.A o.B.toNat o.v = ((Q.flipped o.A o.B.toNat o.v).1.armed v how dn, (Q.flipped o.A o.B.toNat o.v).2) := by
        have es : ∀ v how dn, (Q.armed v how dn).shows o.A = Q.shows o.A := fun _ _ _ => rfl
        have ew : ∀ v how dn, (Q.armed v how dn).waits = Q.waits := fun _ _ _ => rfl
        unfold Ab.flipped
        cases hsh : Q.shows o.A with
        | none => exact ⟨hq, fun v how dn => by rw [es, hsh]⟩
        | some bs =>
          simp only
          by_cases hw : Q.waits o.A = []
          · refine ⟨by rw [if_pos hw]; exact ⟨hq.off, hq.ch⟩, fun v how dn => ?_⟩
            rw [es, hsh]
            simp only [ew, if_pos hw]
            rfl
          · refine ⟨by rw [if_neg hw]; exact ⟨hq.off, hq.ch⟩, fun v how dn => ?_⟩
            rw [es, hsh]
            simp only [ew, if_neg hw]
            rfl
      refine .inl ⟨(Q.flipped o.A o.B.toNat o.v).1, (Q.flipped o.A o.B.toNat o.v).2, hf.1, by rw [eQ, if_neg hr], fun v how dn => by rw [eA, if_neg hr, hf.2], .inr h⟩

theorem pickB_any (c n : Int) (w : World) (hc : (Lit.int .i64 c).wf = true) (hn : 0 < n) (hn2 : n ≤ 1099511627776) :
    Calls Try.prog 10 #[.int .i64 c, .int .i64 n] w fun e w' => e = .returned (.int .i64 (pickOf c n)) ∧ w' = w := by
  have hb := wf_bounds hc
  have HB : Hid (-9223372036854775808 ≤ c ∧ c ≤ 9223372036854775807) := hb
  clear hb hc
  have hz : (n == 0) = false := by rw [beq_eq_false_iff_ne]; omega
  have hz1 : (n == -1) = false := by rw [beq_eq_false_iff_ne]; omega
  by_cases h : c < 0
  · have e : (wrap64 (-wrap64 (c + 1))).tmod n = pickOf c n := by
      have hc := HB.out
      rw [neg_wrap c h hc.1]
      unfold pickOf
      rw [if_pos h, Int.tmod_eq_emod_of_nonneg (by omega)]
    have HE : Hid _ := e
    clear e
    go_enter Try.func10, Try.ntmps10
    go_wp2
    go_ret
    exact ⟨ret_int HE.out, rfl⟩
  · have e : c % n = pickOf c n := by unfold pickOf; rw [if_neg h]
    have HE : Hid _ := e
    clear e
    go_enter Try.func10, Try.ntmps10
    go_wp2
    go_ret
    exact ⟨ret_int HE.out, rfl⟩

set_option maxHeartbeats 1000000 in
set_option maxRecDepth 100000 in
/-- The law's 'waits': how many writes of a block wait. -/
theorem waits_of (w : World) (B1 : Nat) (v1 : Value) (f : Int → Nat) (K : List Int) (h1 : w.ownsRow B1 43 2 v1 K.length (K.flatMap fun n => [Value.int .i64 n, .int .i64 (f n)])) (hK : K.length ≤ 1099511627776) (n : Int) (hf : n ∉ K → f n = 0) :
    Calls Try.prog 40 #[v1, .int .i64 n] w fun e w' => e = .returned (.int .i64 (f n)) ∧ w' = w := by
  obtain ⟨a1, c1, rfl, hc1⟩ := own_shape h1
  have HC1 : Hid _ := hc1
  have HF : Hid (n ∉ K → f n = 0) := hf
  clear hc1 h1 hf
  go_enter Try.func40, Try.ntmps40
  go_wp2
  go_loopw [5] (fun i wr => ∃ k : Nat, k ≤ K.length ∧ i = .int .i64 k ∧ (∀ j, j < k → K[j]? ≠ some n) ∧ wr = w) (fun i _ => K.length - (intOf i).toNat)
  case atStart => exact ⟨0, Nat.zero_le _, rfl, fun j hj => by omega, rfl⟩
  case round =>
    obtain ⟨k, hk, rfl, hne, rfl⟩ := hrel
    have HNE : Hid _ := hne
    clear hne
    by_cases hlt : k < K.length
    · have hkz : (k : Int) < (K.length : Int) := by omega
      obtain ⟨x, hx⟩ : ∃ x, K[k]? = some x := ⟨K[k], List.getElem?_eq_getElem hlt⟩
      obtain ⟨p1, p2⟩ := pend_at f K k x hx
      obtain ⟨g1, e1, l1, d1⟩ := HC1.out _ _ p1
      obtain ⟨g1', e1', _, d2⟩ := HC1.out _ _ p2
      subst e1
      cases e1'
      have HX : Hid _ := hx
      clear p1 p2 hx
      by_cases he : x = n
      · subst he
        go_wp2
        go_ret
        exact ⟨rfl, rfl⟩
      · have hb : (x == n) = false := by rw [beq_eq_false_iff_ne]; exact he
        go_wp2
        refine ⟨⟨k + 1, by omega, by go_num, fun j hj => ?_, trivial⟩, by simp [intOf]; omega⟩
        by_cases e : j = k
        · subst e; rw [HX.out]; intro h; cases h; exact he rfl
        · exact HNE.out j (by omega)
    · obtain rfl : k = K.length := by omega
      have HZ : Hid (f n = 0) := HF.out (fun hm => by
        obtain ⟨j, hj⟩ := List.getElem?_of_mem hm
        exact HNE.out j (List.getElem?_eq_some_iff.1 hj).1 hj)
      go_wp2
      go_ret
      exact ⟨ret_int (by rw [HZ.out]; rfl), rfl⟩
end Go.Proofs.Ytphnajphgiinfaa
