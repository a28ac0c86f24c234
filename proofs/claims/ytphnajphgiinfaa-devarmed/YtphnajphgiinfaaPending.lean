/- The method Pending: the blocks whose writes do not last yet, rising, with how many these are. -/
import Derived.Test.YtphnajphgiinfaaWaiting
namespace Go.Proofs.Ytphnajphgiinfaa
open Go.RowKit Go.Maps Go.MuLone Go.Sort

theorem info43 : (Try.prog.info? 43).map (fun i => (i.zero, i.size, i.bytes)) = some (some (.agg #[.int .i64 0, .int .i64 0]), 2, 16) := by kernel_rfl
theorem info43' : ∃ i, Try.prog.info? 43 = some i ∧ i.zero = some (.agg #[.int .i64 0, .int .i64 0]) ∧ i.size = 2 ∧ i.bytes = 16 := by
  have h := info43
  cases hi : Try.prog.info? 43 with
  | none => rw [hi] at h; simp at h
  | some i => rw [hi] at h; simp at h; exact ⟨i, rfl, h⟩

/-- The cells of what Pending tells. -/
def pendCells (s : St) (l : List Int) : List Value := l.flatMap fun n => [.int .i64 n, .int .i64 (s.waits n).length]

theorem pendCells_snoc (s : St) (l : List Int) (n : Int) : pendCells s (l ++ [n]) = pendCells s l ++ [.int .i64 n, .int .i64 (s.waits n).length] := by simp [pendCells]
theorem pendCells_len (s : St) (l : List Int) : (pendCells s l).length = l.length * 2 := by
  induction l with
  | nil => rfl
  | cons x r ih => simp [pendCells] at ih ⊢; omega

theorem below_row {w w' : World} {row : Option Nat} {B : Nat} (h : w.grownBy w' row) (hr : ∀ g, row = some g → B ≤ g) (hB : B ≤ w.heap.size) : Below B w w' :=
  ⟨h.os, h.tape, h.output, h.size, fun k hk => h.block k (Nat.lt_of_lt_of_le hk hB) (fun e => by have := hr k e.symm; omega)⟩

set_option maxHeartbeats 800000 in
set_option maxRecDepth 100000 in
theorem pending_any (c : Nat) (w : World) (b : Nat) (s : St) (h : DevIs 0 c w b s) (hc : c ≤ 1099511627776) :
    Calls Try.prog 14 #[.pointer (some ⟨b, 0, none⟩)] w fun e w' => ∃ v, e = .returned v ∧ w'.ownsRow w.heap.size 43 2 v (intKeys s.DW).length (pendCells s (intKeys s.DW)) ∧
      DevIs 0 c w' b s ∧ Kept (fun k => k = b) w w' := by
  obtain ⟨i0, hi, hz0, hz1, hz2⟩ := info43'
  obtain ⟨kf1, kf2, kf3, kf4, kf5⟩ := keys_facts h.mapW
  generalize hKs : intKeys s.DW = K at *
  have HK : Hid (intKeys s.DW = K) := hKs
  clear hKs
  go_enter_defers Try.func14, Try.ntmps14
  go_wp2_with fail
  refine (lock_dev c _ b s h).mono ?_
  rintro e w1 ⟨rfl, h1, k1, hs1⟩
  go_wp2_with fail
  refine (waiting_any 1 c _ b s h1 hc).mono ?_
  rintro e w2 ⟨a, cap, he, hcell, hb2⟩
  have h2 := h1.below hb2
  rw [HK.out] at he hcell
  subst he
  go_wp2_with fail
  go_loopw [3, 16] (fun lv i wr => ∃ k : Nat, k ≤ K.length ∧ i = .int .i64 k ∧ wr.ownsRow w2.heap.size 43 2 lv k (pendCells s (K.take k)) ∧ Below w2.heap.size w2 wr) (fun _ i _ => K.length - (intOf i).toNat)
  case atStart => exact ⟨0, Nat.zero_le _, rfl, World.ownsRow_nil _ _ _ _, Below.refl _ _⟩
  case round =>
    obtain ⟨k, hk, rfl, hown, hbl⟩ := hrel
    by_cases hlt : k < K.length
    · obtain ⟨g, rfl, hg1, hg2, hg3⟩ := hcell k K[k] (List.getElem?_eq_getElem hlt)
      have hcg := (hbl.cell (p := ⟨g, k, none⟩) hg2).trans hg3
      have hr := h2.below hbl
      have hmem : K[k] ∈ K := List.getElem_mem hlt
      have hwf := kf5 _ hmem
      have hhas := (kf2 _).1 hmem
      have HT : Hid (pendCells s (K.take (k + 1)) = pendCells s (K.take k) ++ [.int .i64 K[k], .int .i64 (s.waits K[k]).length]) := by
        unfold Hid
        rw [← pendCells_snoc, List.take_append_getElem hlt]
      generalize K[k] = nk at *
      have hne : s.waits nk ≠ [] := fun e => by have := waitAt_none (hr.wait nk) e; rw [hhas] at this; cases this
      obtain ⟨rv, hrv, hrow⟩ := waitAt_some (hr.wait nk) hne
      obtain ⟨gr, capr, rfl, _, _, _, hm, _⟩ := rowAt_form hrow hne
      have hlook := lookW hr.mapW hwf hrv
      have c5 : wr.cell? ⟨b, 5, none⟩ = some (.map (some s.mW)) := hr.cell 5
      have hbs := h2.own_lt (.inl rfl)
      have hws := hbl.size
      have hk63 : (K.length : Int) ≤ 1099511627776 := by omega
      clear hne hhas hmem hrow hrv hg3 kf1 kf2 kf4 kf5 hcell
      go_wp2_with (at_builtin; refine wpList_append_own _ rfl _ _ 39 rfl w2.heap.size 43 i0 (.agg #[.int .i64 0, .int .i64 0]) 2 16 Try.underlying39 hi hz0 hz1 hz2 rfl (by decide) _ _ _ rfl (hown.alloc _) ⟨wr.heap.size, 0, none⟩ 1 1 [.int .i64 nk, .int .i64 (s.waits nk).length] rfl rfl ?c1 ?c2 ?c3 ?c4 ?c5 ?_)
      case c1 =>
        intro j u hj
        match j, hj with
        | 0, hj => simp at hj; subst hj; simp [Addr.add]
        | 1, hj => simp at hj; subst hj; simp [Addr.add]
      case c2 => intro u hu; simp at hu; rcases hu with rfl | rfl <;> rfl
      case c3 => unfold maxLen; omega
      case c4 => omega
      case c5 => simp; omega
      · intro v' w' hown' hgr _
        go_wp2
        refine ⟨⟨k + 1, by omega, by go_num, by rw [HT.out]; exact hown', ?_⟩, by simp [intOf]; omega⟩
        exact (hbl.trans ((Below.refl _ _).alloc hws _)).trans (below_row hgr (fun g hg => row_fresh hown hg) (by simp; omega))
    · obtain rfl : k = K.length := by omega
      have h3 := h2.below hbl
      rw [List.take_length] at hown
      have hws := hbl.size
      have hb2s := hb2.size
      have hbs := h2.own_lt (.inl rfl)
      have hb1s := h1.own_lt (.inl rfl)
      have hle : w.heap.size ≤ w2.heap.size := by omega
      have hne : ∀ g, u3.ownBlock = some g → ¬ g = b := fun g hg e => by have := row_fresh hown hg; omega
      go_wp2
      refine leaves_cons (f := 28) (args := #[.pointer (some ⟨b, 2, none⟩)]) (by simp) (by simp [go_sem]) ?_
      refine (unlock_dev c .returning _ b _ h3).mono ?_
      rintro e u' w3 ⟨rfl, rfl, h4, k4, hs4⟩
      refine ⟨_, results_tmp rfl _ _ _, u3, rfl, row_base (row_kept hown k4 hne) hle, h4, ?_⟩
      exact ((k1.trans (Kept.of_below (S := fun _ => False) hb2) (fun _ _ x => x.elim)).trans (Kept.of_below (S := fun _ => False) hbl) (fun _ _ x => x.elim)).trans k4 (fun _ _ x => x)
end Go.Proofs.Ytphnajphgiinfaa
