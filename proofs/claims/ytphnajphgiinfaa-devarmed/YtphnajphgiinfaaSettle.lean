/- The device's inner method 'settle': the newest write of each block lasts. -/
import Derived.Test.YtphnajphgiinfaaRestart
namespace Go.Proofs.Ytphnajphgiinfaa
open Go.RowKit Go.Maps Go.MuLone Go.Sort

/-- What lasts when the blocks that are no longer to come are settled. -/
def settledTo (s : St) (left : Lit → Bool) (n : Int) : Option (Option (List UInt8)) :=
  if s.waits n ≠ [] ∧ left (key n) = false then some (s.waits n).getLast? else s.lasts n

structure SetIs (lk : Int) (c : Nat) (w : World) (b : Nat) (s : St) (left : Lit → Bool) (t : St) : Prop where
  dev : DevIs lk c w b t
  last : t.lasts = settledTo s left
  same : t = { s with DL := t.DL, lasts := t.lasts }

theorem SetIs.waits {lk : Int} {c : Nat} {w : World} {b : Nat} {s : St} {left : Lit → Bool} {t : St} (h : SetIs lk c w b s left t) : t.waits = s.waits := by rw [h.same]
theorem SetIs.mL {lk : Int} {c : Nat} {w : World} {b : Nat} {s : St} {left : Lit → Bool} {t : St} (h : SetIs lk c w b s left t) : t.mL = s.mL := by rw [h.same]
theorem SetIs.mW {lk : Int} {c : Nat} {w : World} {b : Nat} {s : St} {left : Lit → Bool} {t : St} (h : SetIs lk c w b s left t) : t.mW = s.mW := by rw [h.same]
theorem SetIs.DW {lk : Int} {c : Nat} {w : World} {b : Nat} {s : St} {left : Lit → Bool} {t : St} (h : SetIs lk c w b s left t) : t.DW = s.DW := by rw [h.same]
theorem SetIs.size {lk : Int} {c : Nat} {w : World} {b : Nat} {s : St} {left : Lit → Bool} {t : St} (h : SetIs lk c w b s left t) : t.size = s.size := by rw [h.same]

theorem SetIs.start {lk : Int} {c : Nat} {w : World} {b : Nat} {s : St} (h : DevIs lk c w b s) : SetIs lk c w b s (Maps.has s.DW) s := by
  refine ⟨h, ?_, rfl⟩
  funext n
  unfold settledTo
  by_cases e : s.waits n = []
  · simp [e]
  · obtain ⟨v, hv, _⟩ := waitAt_some (h.wait n) e
    simp [valAt_has hv]

theorem SetIs.step {lk : Int} {c : Nat} {w w' : World} {b : Nat} {s t : St} {left : Lit → Bool} {x : Int} {v : Value} {bs : List UInt8} (h : SetIs lk c w b s left t) (hbs : (s.waits x).getLast? = some bs) (hd : DevIs lk (c + 1) w' b (t.put x v (some bs))) :
    SetIs lk (c + 1) w' b s (fun z => left z && !z.sameKey (key x)) (t.put x v (some bs)) := by
  refine ⟨hd, ?_, ?_⟩
  · funext n
    simp only [St.put, h.last]
    have hne : s.waits x ≠ [] := by intro e; rw [e] at hbs; cases hbs
    by_cases e : n = x
    · subst e
      have hk : (key n).sameKey (key n) = true := WideAt.sameKey_self (a := key n) (by trivial)
      unfold settledTo
      simp [hk, hne, hbs]
    · have hk : (key n).sameKey (key x) = false := sameKey_ne (key_ne e)
      unfold settledTo
      simp [hk, e]
  · rw [h.same]; rfl

abbrev mkK : Int → Value := fun x => .int .i64 x
abbrev mkV : Option Addr × Nat × Nat → Value := fun p => .slice p.1 p.2.1 p.2.2

theorem invK : ∀ k kl, keyOf Try.prog 3 k = some kl → ∃ x, k = mkK x := fun k kl h => by
  obtain ⟨x, e, _, _⟩ := Maps.keyOf_i64 Try.underlying3 h
  exact ⟨x, e⟩
theorem invV : ∀ v y, hW v = some y → ∃ c, v = mkV c := fun v y h => by
  obtain ⟨a, n, c, e, _⟩ := hW_inv h
  exact ⟨(a, n, c), e⟩

theorem ranges_drew {w : World} {R : Value → Option (DataW Value × List MemPlace)} {m r c : Nat} {D : DataW Value} {left : Lit → Bool} {cnt : Nat} (h : w.ranges Try.prog 3 R m r c D left cnt) : w.drew.ranges Try.prog 3 R m r c D left cnt := h
theorem ranges_kept {S : Nat → Prop} {w w' : World} {R : Value → Option (DataW Value × List MemPlace)} {m r c : Nat} {D : DataW Value} {left : Lit → Bool} {cnt : Nat} (h : w.ranges Try.prog 3 R m r c D left cnt) (k : Kept S w w') (hm : ¬ S m) (hr : ¬ S r) : w'.ranges Try.prog 3 R m r c D left cnt := by
  have h1 := h.owns.lt
  have h2 := h.lt
  obtain ⟨es, clock, since, seen, c0, hb, F, hs, hD, hr', rest⟩ := h
  exact ⟨es, clock, since, seen, c0, (k.block m h1 hm).trans hb, F, hs, hD, (k.block r h2 hr).trans hr', rest⟩

set_option maxHeartbeats 1000000 in
set_option maxRecDepth 100000 in
theorem settle_any (c : Nat) (w : World) (b : Nat) (s : St) (h : DevIs 1 c w b s) (hc : c ≤ 549755813888) :
    Calls Try.prog 33 #[.pointer (some ⟨b, 0, none⟩)] w fun e w' => ∃ m D, e = .returned (.tuple #[]) ∧ w.heap.size ≤ m ∧ DevIs 1 (2 * c) w' b { s with DL := D, mW := m, DW := .map [], waits := fun _ => [], lasts := settledTo s (fun _ => false) } ∧ Kept (fun k => k = b ∨ k = s.mL) w w' := by
  obtain ⟨kf1, kf2, kf3, kf4, kf5⟩ := keys_facts h.mapW
  have c5 : w.cell? ⟨b, 5, none⟩ = some (.map (some s.mW)) := h.cell 5
  have hmap := h.mapW
  go_enter Try.func33, Try.ntmps33
  go_wp2_with (at_range; refine wpList_range_own _ rfl _ 72 rfl 3 80 law3 Try.underlying72 hW s.mW c s.DW rfl hmap ?_; intro w0 hrg0 hg0 hs0)
  go_frame
  have h0 : DevIs 1 c w0 b s := h.below (below_grown hg0 (Nat.le_refl _))
  have hb0 : Below w.heap.size w w0 := below_grown hg0 (Nat.le_refl _)
  go_loopw [2] (fun _ wr => ∃ (left : Lit → Bool) (cnt j : Nat) (t : St), wr.ranges Try.prog 3 hW s.mW w.heap.size c s.DW left cnt ∧ j + cnt ≤ c ∧ SetIs 1 (c + j) wr b s left t ∧ Kept (fun k => k = s.mL) w wr ∧ wr.heap.size = w.heap.size + 1)
    (fun _ wr => wr.rangeLeft s.mW w.heap.size)
  case atStart => exact ⟨_, _, 0, s, hrg0, by omega, SetIs.start h0, Kept.of_below hb0, hs0⟩
  case round =>
    obtain ⟨left, cnt, j, t, hrg, hj, hset, hk, hsz⟩ := hrel
    go_wp2_with (at_next; refine wpList_next_ranges _ rfl _ rfl 3 law3 hW mkK mkV invK invV s.mW w.heap.size c s.DW left cnt rfl hrg ?_ ?_)
    · intro hc0 hl0
      have hl : left = fun _ => false := funext hl0
      subst hl
      have hws : w.heap.size ≤ wr.heap.size := by omega
      clear kf1 kf2 kf4 kf5 h0 hrg0 hg0 hrg
      go_wp2_with fail
      refine (forget_any 1 _ _ b t hset.dev).mono ?_
      rintro e w3 ⟨rfl, h3, k3⟩
      go_wp2
      go_end0
      refine ⟨wr.heap.size, t.DL, rfl, hws, ?_, (hk.mono (fun _ _ x => .inr x)).trans k3 (fun _ _ x => .inl x)⟩
      have e : (t.forget wr.heap.size) = { s with mW := wr.heap.size, DL := t.DL, DW := .map [], lasts := settledTo s (fun _ => false), waits := fun _ => [] } := by
        rw [← hset.last, hset.same]; rfl
      rw [← e]
      exact h3.more (by omega)
    · intro x a len cap kl d ps w1 cnt1 hkey hlx hR hat hrg1 hlt hg1 hs1 hen
      obtain ⟨x', e1, rfl, hwf⟩ := Maps.keyOf_i64 Try.underlying3 hkey
      obtain rfl : x = x' := by simpa [encZ] using e1
      obtain ⟨_, _, _, e0, e2⟩ := hW_inv hR
      clear e0
      simp only [Prod.mk.injEq] at e2
      obtain ⟨rfl, rfl⟩ := e2
      have hv : valAt s.DW x (.slice a len cap) := hat
      have hit : ∃ si se c0, wr.heap[w.heap.size]? = some (.mapIter (some s.mW) si se c0) := by
        obtain ⟨es, clock, since, seen, c0, _, _, _, _, hr, _⟩ := hrg
        exact ⟨since, seen, c0, hr⟩
      have hown : ∀ i, Own b t i → ¬ i = w.heap.size := by
        intro i hi e
        have : Own b s i := by unfold Own at hi ⊢; rw [hset.mL, hset.mW, hset.DW] at hi; exact hi
        have := h.own_lt this
        omega
      have hkn : Kept (fun k => k = w.heap.size) wr w1 := Kept.of_grown hg1 (fun k e => by cases e; rfl)
      have hd1 : DevIs 1 (c + j) w1 b t := hset.dev.kept hkn hown (fun g hg _ e => by
        obtain ⟨cur, hcur⟩ := hg
        obtain ⟨si, se, c0, hi⟩ := hit
        rw [e, hi] at hcur
        cases hcur)
      obtain ⟨hne, hrow⟩ := hd1.row (n := x) (v := .slice a len cap) (by rw [hset.DW]; exact hv)
      obtain ⟨g, capr, e3, hg, _, hp, hm, hcell⟩ := rowAt_form hrow hne
      simp only [Value.slice.injEq] at e3
      obtain ⟨rfl, rfl, rfl⟩ := e3
      obtain ⟨bs, hbs⟩ : ∃ bs, (t.waits x).getLast? = some bs := by
        cases e : (t.waits x).getLast? with
        | none => simp at e; exact absurd e hne
        | some bs => exact ⟨bs, rfl⟩
      obtain ⟨u, hu, hub⟩ := hcell ((t.waits x).length - 1) bs (by rw [← hbs, List.getLast?_eq_getElem?])
      obtain ⟨gu, capu, rfl, _⟩ := bytesAt_form hub.1 hd1.size.1
      have c4 : w1.cell? ⟨b, 4, none⟩ = some (.map (some s.mL)) := by rw [← hset.mL]; exact hd1.cell 4
      obtain ⟨w2, hrun, hd2, hk2, hs2⟩ := storeL hwf (v := .agg #[.slice (some ⟨gu, 0, none⟩) t.size capu, .bool false]) (r := some bs) (hd1.below (below_drew _ w1)) (by omega) ⟨_, rfl, hub⟩
      rw [hset.mL] at hrun hk2
      have hmLlt := h.mapL.lt
      have hrg2 : w2.ranges Try.prog 3 hW s.mW w.heap.size c s.DW (fun z => left z && !z.sameKey (key x)) cnt1 := ranges_kept (ranges_drew hrg1) hk2 (fun e => h.apart e.symm) (fun e => by omega)
      have hset2 := hset.step (v := .agg #[.slice (some ⟨gu, 0, none⟩) t.size capu, .bool false]) (by rw [← hset.waits]; exact hbs) hd2
      have hkept2 : Kept (fun k => k = s.mL) w w2 := (hk.trans hkn (fun i hi e => by omega)).trans ((Kept.of_below (S := fun k => k = s.mL) (below_drew _ w1)).trans hk2 (fun _ _ x => x)) (fun _ _ x => x)
      have hmeas : w2.rangeLeft s.mW w.heap.size < wr.rangeLeft s.mW w.heap.size := by rw [hrg2.left_eq, hrg.left_eq]; exact hlt
      have hs3 : w2.heap.size = w.heap.size + 1 := by rw [hs2]; exact hs1
      have HB : Hid (∃ left cnt j t, w2.ranges Try.prog 3 hW s.mW w.heap.size c s.DW left cnt ∧ j + cnt ≤ c ∧ SetIs 1 (c + j) w2 b s left t ∧ Kept (fun k => k = s.mL) w w2 ∧ w2.heap.size = w.heap.size + 1) :=
        ⟨_, cnt1, j + 1, _, hrg2, by omega, hset2, hkept2, hs3⟩
      have HM : Hid (w2.rangeLeft s.mW w.heap.size < wr.rangeLeft s.mW w.heap.size) := hmeas
      unfold maxLen at hm
      generalize (t.waits x).length = len at *
      clear kf1 kf2 kf4 kf5 h0 hrg0 hg0 hrg hrg1 hrg2 hset2 hkept2 hmeas hs3 hset hd2 hk2 hs2 hub hcell hbs hrow hne hd1 hkn hown hit hv hR hat hkey hlx h hmap hb0 hk hj hs0
      dsimp only [mkK, mkV] at hen ⊢
      go_wp2
      go_region
      go_wp2
      exact ⟨HB.out, HM.out⟩
end Go.Proofs.Ytphnajphgiinfaa
