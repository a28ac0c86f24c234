/- firstLoose: the first place that is not held. -/
import Derived.Test.YteajgodpdfcioaaSmall
namespace Go.Proofs.Yteajgodpdfcioaa
open Go.RowKit Go.Maps

theorem idx_from (e : Nat) (A B : List Nat) (h : (e :: (A ++ B)).Nodup) : (A ++ B).idxOf (fstB e B) = A.length := by
  obtain ⟨h1, h2⟩ := List.nodup_cons.1 h
  obtain ⟨_, _, h3⟩ := List.nodup_append.1 h2
  cases B with
  | nil =>
    rw [List.append_nil] at h1 ⊢
    exact List.idxOf_eq_length h1
  | cons x B =>
    have hx : x ∉ A := fun hm => h3 x hm x (by simp) rfl
    rw [List.idxOf_append]
    rw [if_neg (show fstB e (x :: B) ∉ A from hx)]
    simp [fstB]
/-- How many places stand behind where 'from' stands. -/
def leftF (c : Nat) (l : List Nat) (w : World) : Nat := match w.cell? ⟨c, 3, none⟩ with
  | some (.pointer (some a)) => l.length - l.idxOf a.block
  | _ => 0
theorem leftF_at {c e : Nat} {w : World} {A B : List Nat} (h : w.cell? ⟨c, 3, none⟩ = some (ptr (fstB e B))) (hn : (e :: (A ++ B)).Nodup) : leftF c (A ++ B) w = B.length := by
  unfold leftF
  rw [h]
  show (A ++ B).length - (A ++ B).idxOf (fstB e B) = _
  rw [idx_from e A B hn]
  simp
/-- What firstLoose leaves. -/
structure LooseAt (w : World) (c : Nat) (h : Hd) (G F R : List Pl) (w' : World) : Prop where
  is : G = F ++ R
  held : ∀ q ∈ F, 0 < q.pins
  head : HdAt w' c { h with f := fstB h.e (R.map Pl.b) }
  far : ∀ k, k ≠ c → w'.heap[k]? = w.heap[k]?
  kept : Kept (fun k => k = c) w w'
theorem LooseAt.core {w w' : World} {c : Nat} {h : Hd} {G F R : List Pl} (l : LooseAt w c h G F R w') (k : Core w c h G) : Core w' c { h with f := fstB h.e (R.map Pl.b) } G := by
  obtain ⟨h1, ⟨nx, pv, hr⟩, h3⟩ := k
  exact ⟨l.head, ⟨nx, pv, hr.same fun i hi => l.far i (fun e => hr.apart h1 (e ▸ hi))⟩, ⟨F, R, l.is, l.held, rfl⟩⟩
set_option maxHeartbeats 800000 in
set_option maxRecDepth 100000 in
theorem firstLoose_any {w : World} {c : Nat} {h : Hd} {G : List Pl} (k : Core w c h G) :
    Calls Try.prog 33 #[ptr c] w fun r w' => ∃ F R, r = .returned (ptr (fstB h.e (R.map Pl.b))) ∧ LooseAt w c h G F R w' ∧ (R = [] ∨ ∃ q R', R = q :: R' ∧ q.pins = 0) := by
  have hnd := k.nodup
  have HN : Hid (h.e :: G.map Pl.b).Nodup := hnd
  obtain ⟨h1, ⟨nx, pv, hr⟩, F0, R0, hG0, hF0, hf0⟩ := k
  have hap := hr.apart h1
  have HR : Hid (RingAt w h.e G nx pv) := hr
  have HA : Hid (c ∉ h.e :: G.map Pl.b) := hap
  have HS : Hid (LooseAt w c h G F0 R0 w) := ⟨hG0, hF0, by rw [← hf0]; exact h1, fun _ _ => rfl, Kept.refl _ _⟩
  clear hnd hr hap hG0 hF0 hf0 h1
  go_enter Try.func33, Try.ntmps33
  go_wp2_with fail
  go_loopw [10] (fun _ wr => ∃ F R, LooseAt w c h G F R wr) (fun _ wr => leftF c (G.map Pl.b) wr)
  case atStart => exact ⟨F0, R0, HS.out⟩
  case round =>
    obtain ⟨F, R, hl⟩ := hrel
    have HL : Hid (LooseAt w c h G F R wr) := hl
    have c3 : wr.cell? ⟨c, 3, none⟩ = some (ptr (fstB h.e (R.map Pl.b))) := by rw [row_cell hl.head]; rfl
    have f3 : wr.frozen? ⟨c, 3, none⟩ = false := row_frozen hl.head _
    have hn1 : (h.e :: (F.map Pl.b ++ R.map Pl.b)).Nodup := by rw [← List.map_append, ← hl.is]; exact HN.out
    have HML : Hid (leftF c (G.map Pl.b) wr = R.length) := by
      show _ = _
      rw [hl.is, List.map_append, leftF_at c3 hn1]
      simp
    cases R with
    | nil =>
      have he : wr.heap[h.e]? = _ := (hl.far h.e (fun e => HA.out (by simp [e]))).trans (HR.out.mem (endP h.e) (by simp))
      have e2 : wr.cell? ⟨h.e, 2, none⟩ = some (.int .i64 0) := by rw [row_cell he]; rfl
      have c3' : wr.cell? ⟨c, 3, none⟩ = some (ptr h.e) := c3
      clear he c3 hl hn1 HS
      go_wp2_with fail
      go_ret
      exact ⟨F, [], rfl, HL.out, .inl rfl⟩
    | cons q R =>
      have hqG : q ∈ endP h.e :: G := by rw [hl.is]; simp
      have hqb : q.b ∈ h.e :: G.map Pl.b := by rw [hl.is]; simp
      have hq : wr.heap[q.b]? = _ := (hl.far q.b (fun e => HA.out (e ▸ hqb))).trans (HR.out.mem q hqG)
      have hnx : nx q.b = fstB h.e (R.map Pl.b) := by
        have : Ring nx pv h.e (F.map Pl.b ++ q.b :: R.map Pl.b) := by have := HR.out.ring; rw [hl.is] at this; simpa using this
        exact this.at.1
      rw [hnx] at hq
      have e2 : wr.cell? ⟨q.b, 2, none⟩ = some (.int .i64 (q.pins : Int)) := by rw [row_cell hq]; rfl
      have e5 : wr.cell? ⟨q.b, 5, none⟩ = some (ptr (fstB h.e (R.map Pl.b))) := by rw [row_cell hq]; rfl
      have c3' : wr.cell? ⟨c, 3, none⟩ = some (ptr q.b) := c3
      by_cases hp : 0 < q.pins
      · have hpz : (0 : Int) < (q.pins : Int) := by omega
        have HX : Hid (LooseAt w c h G (F ++ [q]) R (wr.setCell ⟨c, 3, none⟩ (ptr (fstB h.e (R.map Pl.b))))) :=
          ⟨by rw [hl.is]; simp, fun x hx => by rcases List.mem_append.1 hx with hx | hx; exact hl.held x hx; simp at hx; subst hx; exact hp, (heap_set_same _ hl.head).trans (by simp [hdr]), fun k hk => (set_far _ hk).trans (hl.far k hk), hl.kept.trans (setCell_kept _) (fun _ _ e => e)⟩
        have HM2 : Hid (leftF c (G.map Pl.b) (wr.setCell ⟨c, 3, none⟩ (ptr (fstB h.e (R.map Pl.b)))) = R.length) := by
          show _ = _
          have c3n : (wr.setCell ⟨c, 3, none⟩ (ptr (fstB h.e (R.map Pl.b)))).cell? ⟨c, 3, none⟩ = some (ptr (fstB h.e (R.map Pl.b))) := by rw [row_cell HX.out.head]; rfl
          have hn2 : (h.e :: ((F ++ [q]).map Pl.b ++ R.map Pl.b)).Nodup := by simpa using hn1
          rw [show G.map Pl.b = (F ++ [q]).map Pl.b ++ R.map Pl.b by rw [hl.is]; simp, leftF_at c3n hn2]
          simp
        clear hq c3 hl hn1 HS hqG hqb hnx hp
        generalize hD : fstB h.e (R.map Pl.b) = d at *
        go_wp2_with fail
        exact ⟨⟨_, _, HX.out⟩, by rw [HM2.out, HML.out]; simp⟩
      · have h0 : q.pins = 0 := by omega
        have hpz : ¬ (0 : Int) < (q.pins : Int) := by omega
        have e2' : wr.cell? ⟨q.b, 2, none⟩ = some (.int .i64 0) := by rw [e2, h0]; rfl
        clear hq c3 hl hn1 HS hqG hqb hnx hp e2 hpz
        have HZ : Hid (q.pins = 0) := h0
        clear h0
        go_wp2_with fail
        go_ret
        exact ⟨F, q :: R, rfl, HL.out, .inr ⟨q, R, rfl, HZ.out⟩⟩
end Go.Proofs.Yteajgodpdfcioaa
