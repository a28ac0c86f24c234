/- What of a device stays while other memory is written or made. -/
import Derived.Test.YtphnajphgiinfaaState
namespace Go.Proofs.Ytphnajphgiinfaa
open Go.RowKit Go.Maps

theorem row_kept {S : Nat → Prop} {w w' : World} {base : Nat} {e : TypeId} {size : Nat} {v : Value} {n : Nat} {xs : List Value} (h : w.ownsRow base e size v n xs) (k : Kept S w w') (hs : ∀ g, v.ownBlock = some g → ¬ S g) : w'.ownsRow base e size v n xs := by
  refine ⟨h.1, ?_⟩
  rcases h.2 with h' | ⟨g, cap, cur, hv, hb, hg, h4, h5, h6, h7⟩
  · exact .inl h'
  · refine .inr ⟨g, cap, cur, hv, hb, ?_, h4, h5, h6, h7⟩
    rw [k.block g (Array.getElem?_eq_some_iff.1 hg).1 (hs g (by rw [hv]; rfl))]
    exact hg

theorem map_kept {S : Nat → Prop} {w w' : World} {R : Value → Option (DataW Value × List MemPlace)} {b c : Nat} {D : DataW Value} (h : w.ownsMap Try.prog 3 R b c D) (k : Kept S w w') (hs : ¬ S b) : w'.ownsMap Try.prog 3 R b c D := by
  have hlt := h.lt
  obtain ⟨es, clock, hb, F, hn, hD⟩ := h
  exact ⟨es, clock, (k.block b hlt hs).trans hb, F, hn, hD⟩

/-- The kind of a block: what a row of bytes is, no device writes. -/
def isBytes (w : World) (g : Nat) : Prop := ∃ cur, w.heap[g]? = some (.cells cur 5 (0, 0))

theorem bytesAt_block {w : World} {n : Nat} {v : Value} {bs : List UInt8} (h : bytesAt w n v bs) : ∀ g, v.ownBlock = some g → isBytes w g := by
  intro g hg
  rcases h.2 with ⟨h', _⟩ | ⟨g', cap, cur, hv, _, hb, _⟩
  · rw [h'] at hg; cases hg
  · rw [hv] at hg
    cases hg
    exact ⟨cur, hb⟩

theorem bytes_kept {S : Nat → Prop} {w w' : World} {n : Nat} {v : Value} {bs : List UInt8} (h : bytesAt w n v bs) (k : Kept S w w') (hs : ∀ g, isBytes w g → ¬ S g) : bytesAt w' n v bs :=
  row_kept h k (fun g hg => hs g (bytesAt_block h g hg))

theorem ref_kept {S X : Nat → Prop} {w w' : World} {n : Nat} {v : Value} {bs : List UInt8} (h : refAt w X n v bs) (k : Kept S w w') (hs : ∀ g, isBytes w g → ¬ X g → ¬ S g) : refAt w' X n v bs :=
  ⟨row_kept h.1 k (fun g hg => hs g (bytesAt_block h.1 g hg) (h.2 g hg)), h.2⟩

theorem rowAt_kept {S X : Nat → Prop} {w w' : World} {n : Nat} {v : Value} {l : List (List UInt8)} (h : rowAt w X n v l) (k : Kept S w w') (hs : ∀ g, isBytes w g → ¬ X g → ¬ S g) (hv : ∀ g, v.ownBlock = some g → ¬ S g) : rowAt w' X n v l := by
  obtain ⟨vs, h1, h2, h3⟩ := h
  exact ⟨vs, row_kept h1 k hv, h2, fun i u bs a b => ref_kept (h3 i u bs a b) k hs⟩

theorem rowAt_isRow {X : Nat → Prop} {w : World} {n : Nat} {v : Value} {l : List (List UInt8)} (h : rowAt w X n v l) (hl : l ≠ []) : ∃ g len cap cur, v = .slice (some ⟨g, 0, none⟩) len cap ∧ w.heap[g]? = some (.cells cur 29 (0, 0)) ∧ len = l.length := by
  obtain ⟨vs, h1, h2, h3⟩ := h
  rcases h1.2 with ⟨_, h'⟩ | ⟨g, cap, cur, hv, _, hb, _⟩
  · have : l.length = 0 := by omega
    exact absurd (List.length_eq_zero_iff.1 this) hl
  · exact ⟨g, vs.length, cap, cur, hv, hb, h2⟩

theorem last_kept {S : Nat → Prop} {w w' : World} {s : St} {n : Int} (h : lastAt w s n) (k : Kept S w w') (hs : ∀ g, isBytes w g → ¬ s.X g → ¬ S g) : lastAt w' s n := by
  unfold lastAt at h ⊢
  split
  · simp_all
  · simp_all
  · rename_i bs e
    rw [e] at h
    obtain ⟨v, h1, h2⟩ := h
    exact ⟨v, h1, ref_kept h2 k hs⟩

theorem wait_kept {S : Nat → Prop} {w w' : World} {s : St} {n : Int} (h : waitAt w s n) (k : Kept S w w') (hs : ∀ g, isBytes w g → ¬ s.X g → ¬ S g) (hv : ∀ v g, valAt s.DW n v → v.ownBlock = some g → ¬ S g) : waitAt w' s n := by
  unfold waitAt at h ⊢
  split
  · simp_all
  · rename_i l hl
    have : ∃ v, valAt s.DW n v ∧ rowAt w s.X s.size v (s.waits n) := by
      cases e : s.waits n with
      | nil => exact absurd e hl
      | cons x r => rw [e] at h; exact h
    obtain ⟨v, h1, h2⟩ := this
    exact ⟨v, h1, rowAt_kept h2 k hs (fun g => hv v g h1)⟩

theorem waitAt_some {w : World} {s : St} {n : Int} (h : waitAt w s n) (hl : s.waits n ≠ []) : ∃ v, valAt s.DW n v ∧ rowAt w s.X s.size v (s.waits n) := by
  unfold waitAt at h
  cases e : s.waits n with
  | nil => exact absurd e hl
  | cons x r => rw [e] at h; exact h
theorem waitAt_none {w : World} {s : St} {n : Int} (h : waitAt w s n) (hl : s.waits n = []) : Maps.has s.DW (key n) = false := by
  unfold waitAt at h
  rw [hl] at h
  exact h

/-- A value that waits is a row. -/
theorem DevIs.row {lk : Int} {c : Nat} {w : World} {b : Nat} {s : St} (h : DevIs lk c w b s) {n : Int} {v : Value} (hv : valAt s.DW n v) : s.waits n ≠ [] ∧ rowAt w s.X s.size v (s.waits n) := by
  have h1 := h.wait n
  by_cases e : s.waits n = []
  · have := waitAt_none h1 e
    rw [valAt_has hv] at this
    cases this
  · obtain ⟨u, h2, h3⟩ := waitAt_some h1 e
    cases valAt_fun hv h2
    exact ⟨e, h3⟩

/-- What the device alone writes is no row of bytes. -/
theorem DevIs.own_not_bytes {lk : Int} {c : Nat} {w : World} {b : Nat} {s : St} (h : DevIs lk c w b s) {k : Nat} (hk : Own b s k) : ¬ isBytes w k := by
  rintro ⟨cur, hc⟩
  rcases hk with rfl | rfl | rfl | ⟨n, v, h1, h2⟩
  · rw [h.cells] at hc; simp at hc
  · obtain ⟨es, cl, hb, _⟩ := h.mapL; rw [hb] at hc; simp at hc
  · obtain ⟨es, cl, hb, _⟩ := h.mapW; rw [hb] at hc; simp at hc
  · obtain ⟨e, hr⟩ := h.row h1
    obtain ⟨g, len, cap, cur', hv, hg, _⟩ := rowAt_isRow hr e
    rw [hv] at h2
    cases h2
    rw [hg] at hc
    simp at hc

theorem DevIs.own_lt {lk : Int} {c : Nat} {w : World} {b : Nat} {s : St} (h : DevIs lk c w b s) {k : Nat} (hk : Own b s k) : k < w.heap.size := by
  rcases hk with rfl | rfl | rfl | ⟨n, v, h1, h2⟩
  · exact (Array.getElem?_eq_some_iff.1 h.cells).1
  · exact h.mapL.lt
  · exact h.mapW.lt
  · obtain ⟨e, hr⟩ := h.row h1
    obtain ⟨g, len, cap, cur', hv, hg, _⟩ := rowAt_isRow hr e
    rw [hv] at h2
    cases h2
    exact (Array.getElem?_eq_some_iff.1 hg).1

/-- THE FRAME: what somebody else does leaves the device as it is. -/
theorem DevIs.kept {lk : Int} {c : Nat} {S : Nat → Prop} {w w' : World} {b : Nat} {s : St} (h : DevIs lk c w b s) (k : Kept S w w') (ho : ∀ i, Own b s i → ¬ S i) (hs : ∀ g, isBytes w g → ¬ s.X g → ¬ S g) : DevIs lk c w' b s where
  cells := (k.block b (h.own_lt (.inl rfl)) (ho b (.inl rfl))).trans h.cells
  mapL := map_kept h.mapL k (ho _ (.inr (.inl rfl)))
  mapW := map_kept h.mapW k (ho _ (.inr (.inr (.inl rfl))))
  apart := h.apart
  last := fun n => last_kept (h.last n) k hs
  wait := fun n => wait_kept (h.wait n) k hs (fun v g hv hg => ho g (.inr (.inr (.inr ⟨n, v, hv, hg⟩))))
  rows := h.rows
  size := h.size
  blocks := h.blocks
  alien := fun g hg => Nat.lt_of_lt_of_le (h.alien g hg) k.size

theorem DevIs.below {lk : Int} {c : Nat} {w w' : World} {b : Nat} {s : St} (h : DevIs lk c w b s) (k : Below w.heap.size w w') : DevIs lk c w' b s :=
  h.kept (S := fun _ => False) (Kept.of_below k) (fun _ _ => id) (fun _ _ _ => id)


/-- A block that the device never saw is none of its own. -/
theorem DevIs.adopt {lk : Int} {c : Nat} {w w' : World} {b : Nat} {s : St} (h : DevIs lk c w b s) (k : Below w.heap.size w w') {g : Nat} (hg : w.heap.size ≤ g) (hg' : g < w'.heap.size) : DevIs lk c w' b { s with X := fun i => s.X i ∨ i = g } := by
  have h' := h.below k
  have href : ∀ n v bs, refAt w s.X n v bs → refAt w' (fun i => s.X i ∨ i = g) n v bs := fun n v bs hr =>
    ⟨row_kept hr.1 (Kept.of_below (S := fun _ => False) k) (fun _ _ => id), fun i hi hx => hx.elim (hr.2 i hi) (fun e => by
      obtain ⟨cur, hc⟩ := bytesAt_block hr.1 i hi
      have := (Array.getElem?_eq_some_iff.1 hc).1
      omega)⟩
  refine { cells := h'.cells, mapL := h'.mapL, mapW := h'.mapW, apart := h'.apart, last := ?_, wait := ?_, rows := h'.rows, size := h'.size, blocks := h'.blocks, alien := fun i hi => hi.elim (h'.alien i) (fun e => by omega) }
  · intro n
    have := h.last n
    unfold lastAt at this ⊢
    dsimp only
    cases e : s.lasts n with
    | none => rw [e] at this; exact this
    | some r => cases r with
      | none => rw [e] at this; exact this
      | some bs =>
        rw [e] at this
        obtain ⟨v, h1, h2⟩ := this
        exact ⟨v, h1, href _ _ _ h2⟩
  · intro n
    by_cases e : s.waits n = []
    · have := waitAt_none (h.wait n) e
      unfold waitAt
      dsimp only
      rw [e]
      exact this
    · obtain ⟨v, h1, vs, h2, h3, h4⟩ := waitAt_some (h.wait n) e
      unfold waitAt
      dsimp only
      cases e2 : s.waits n with
      | nil => exact absurd e2 e
      | cons x r =>
        refine ⟨v, h1, vs, row_kept h2 (Kept.of_below (S := fun _ => False) k) (fun _ _ => id), by rw [← e2]; exact h3, fun i u bs a b => href _ _ _ (h4 i u bs a (by rw [e2]; exact b))⟩

end Go.Proofs.Ytphnajphgiinfaa
