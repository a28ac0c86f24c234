/- The smallest methods of a device: has, New, forget; and the cells of a device as a walk reads them. -/
import Derived.Test.YtphnajphgiinfaaKeep
namespace Go.Proofs.Ytphnajphgiinfaa
open Go.RowKit Go.Maps

theorem hdr_cell {w : World} {b : Nat} {cur : Array Value} {t : TypeId} (h : w.heap[b]? = some (.cells cur t (0, 0))) (i : Nat) : w.cell? ⟨b, i, none⟩ = cur[i]? := by
  simp [World.cell?, h]
theorem hdr_frozen {w : World} {b : Nat} {cur : Array Value} {t : TypeId} (h : w.heap[b]? = some (.cells cur t (0, 0))) (i : Nat) : w.frozen? ⟨b, i, none⟩ = false := by
  simp [World.frozen?, h]

theorem DevIs.cell {lk : Int} {c : Nat} {w : World} {b : Nat} {s : St} (h : DevIs lk c w b s) (i : Nat) : w.cell? ⟨b, i, none⟩ = (hdr lk s)[i]? := hdr_cell h.cells i
theorem DevIs.frozen {lk : Int} {c : Nat} {w : World} {b : Nat} {s : St} (h : DevIs lk c w b s) (i : Nat) : w.frozen? ⟨b, i, none⟩ = false := hdr_frozen h.cells i

def inRange (n : Int) (k : Nat) : Bool := decide (0 ≤ n) && decide (n < (k : Int))

theorem has_any (lk : Int) (c : Nat) (w : World) (b : Nat) (s : St) (h : DevIs lk c w b s) (n : Int) :
    Calls Try.prog 29 #[.pointer (some ⟨b, 0, none⟩), .int .i64 n] w fun e w' => e = .returned (.bool (inRange n s.blocks)) ∧ w' = w := by
  have c1 : w.cell? ⟨b, 1, none⟩ = some (.int .i64 s.blocks) := h.cell 1
  clear h
  by_cases h0 : 0 ≤ n
  · have e : inRange n s.blocks = decide (n < (s.blocks : Int)) := by simp [inRange, h0]
    rw [e]
    clear e
    go_enter Try.func29, Try.ntmps29
    go_wp2
    go_ret
    exact ⟨rfl, rfl⟩
  · have e : inRange n s.blocks = false := by simp [inRange, h0]
    rw [e]
    clear e
    go_enter Try.func29, Try.ntmps29
    go_wp2
    go_ret
    exact ⟨rfl, rfl⟩

/-- A new device. -/
def St.new (size blocks m : Nat) : St := { size, blocks, mL := m, mW := m + 1, DL := .map [], DW := .map [], off := false, ch := 0, how := 0, done := false, rd := 0, wt := 0, lasts := fun _ => none, waits := fun _ => [], X := fun _ => False }

theorem new_is (w : World) (size blocks : Nat) (hs : 1 ≤ size ∧ size ≤ 4096) (hb : blocks ≤ 65536) :
    DevIs 0 0 (((w.alloc (.map #[] 0)).alloc (.map #[] 0)).alloc (.cells (hdr 0 (St.new size blocks w.heap.size)) 77 (0, 0))) (w.heap.size + 2) (St.new size blocks w.heap.size) where
  cells := by
    have := (MapKept.heap_alloc ((w.alloc (.map #[] 0)).alloc (.map #[] 0)) (.cells (hdr 0 (St.new size blocks w.heap.size)) 77 (0, 0))).1
    simpa using this
  mapL := ((World.ownsMap_made w _ _ _).alloc _).alloc _
  mapW := by
    have := (World.ownsMap_made (w.alloc (.map #[] 0)) Try.prog 3 hW).alloc (.cells (hdr 0 (St.new size blocks w.heap.size)) 77 (0, 0))
    simpa [St.new] using this
  apart := by simp [St.new]
  last := fun n => rfl
  wait := fun n => rfl
  rows := fun n n' v v' h => by have := valAt_has h; simp [St.new, Maps.has] at this
  size := hs
  blocks := hb
  alien := fun _ h => h.elim

theorem new_bad (size blocks : Int) (w : World) (h : ¬ (size = 512 ∨ size = 1024 ∨ size = 2048 ∨ size = 4096)) :
    Calls Try.prog 25 #[.int .i64 size, .int .i64 blocks] w fun e w' => e = .returned (.tuple #[.pointer none, .int .i64 1]) ∧ w' = w := by
  have h1 : (size == 512) = false := by rw [beq_eq_false_iff_ne]; omega
  have h2 : (size == 1024) = false := by rw [beq_eq_false_iff_ne]; omega
  have h3 : (size == 2048) = false := by rw [beq_eq_false_iff_ne]; omega
  have h4 : (size == 4096) = false := by rw [beq_eq_false_iff_ne]; omega
  clear h
  go_enter Try.func25, Try.ntmps25
  go_wp2
  go_ret2
  exact ⟨rfl, rfl⟩

theorem new_ok (size blocks : Nat) (w : World) (h : size = 512 ∨ size = 1024 ∨ size = 2048 ∨ size = 4096) (hb : 16 ≤ blocks ∧ blocks ≤ 65536) :
    Calls Try.prog 25 #[.int .i64 size, .int .i64 blocks] w fun e w' => e = .returned (.tuple #[.pointer (some ⟨w.heap.size + 2, 0, none⟩), .int .i64 0]) ∧
      DevIs 0 0 w' (w.heap.size + 2) (St.new size blocks w.heap.size) ∧ Below w.heap.size w w' := by
  have hmm := @run_makeMap Try.prog
  obtain ⟨hb1, hb2⟩ := hb
  have key := new_is w size blocks (by omega) hb2
  have HK : Hid _ := key
  clear key
  have hb3 : ¬ ((blocks : Int) < 16) := by omega
  have hb4 : ¬ ((65536 : Int) < (blocks : Int)) := by omega
  clear hb1 hb2
  rcases h with rfl | rfl | rfl | rfl
  all_goals
    go_enter Try.func25, Try.ntmps25
    go_wp2
    go_ret2
    exact ⟨rfl, HK.out, (((Below.refl _ _).alloc (Nat.le_refl _) _).alloc (by simp) _).alloc (by simp; omega) _⟩

/-- The device whose map of what waits is new. -/
def St.forget (s : St) (m : Nat) : St := { s with mW := m, DW := .map [], waits := fun _ => [] }

theorem setCell_block {w : World} {b i : Nat} {cur : Array Value} {t : TypeId} (h : w.heap[b]? = some (.cells cur t (0, 0))) (v : Value) : (w.setCell ⟨b, i, none⟩ v).heap[b]? = some (.cells (cur.setIfInBounds i v) t (0, 0)) := heap_setCell_same w b i cur t v h

theorem setCell_kept {w : World} {b i : Nat} (v : Value) : Kept (fun k => k = b) w (w.setCell ⟨b, i, none⟩ v) :=
  ⟨rfl, rfl, rfl, by simp [World.setCell], fun k _ hk => by simp [World.setCell, Array.getElem?_modify, Ne.symm hk]⟩

theorem forget_is {lk : Int} {c : Nat} {w : World} {b : Nat} {s : St} (h : DevIs lk c w b s) :
    DevIs lk c ((w.alloc (.map #[] 0)).setCell ⟨b, 5, none⟩ (.map (some w.heap.size))) b (s.forget w.heap.size) ∧ Kept (fun k => k = b) w ((w.alloc (.map #[] 0)).setCell ⟨b, 5, none⟩ (.map (some w.heap.size))) := by
  have hlt := h.own_lt (.inl rfl)
  have hbl : Below w.heap.size w (w.alloc (.map #[] 0)) := (Below.refl _ _).alloc (Nat.le_refl _) _
  have h1 := h.below hbl
  have kb := setCell_kept (w := w.alloc (.map #[] 0)) (b := b) (i := 5) (.map (some w.heap.size))
  have k2 : Kept (fun k => k = b) w ((w.alloc (.map #[] 0)).setCell ⟨b, 5, none⟩ (.map (some w.heap.size))) := (Kept.of_below hbl).trans kb (fun _ _ x => x)
  have nb : ∀ g, isBytes w g → ¬ s.X g → ¬ g = b := fun g hg _ e => h.own_not_bytes (.inl e) hg
  refine ⟨?_, k2⟩
  exact {
    cells := (setCell_block h1.cells _).trans rfl
    mapL := map_kept h.mapL k2 (fun e => by obtain ⟨es, cl, hb, _⟩ := h.mapL; rw [show s.mL = b from e, h.cells] at hb; cases hb)
    mapW := map_kept (World.ownsMap_made w Try.prog 3 hW) kb (fun e => by omega) |>.mono (Nat.zero_le _)
    apart := fun e => by have := h.mapL.lt; simp only [St.forget] at e; omega
    last := fun n => last_kept (s := s.forget w.heap.size) (h.last n) k2 nb
    wait := fun n => rfl
    rows := fun n n' v v' hv => by have := valAt_has hv; simp [St.forget, Maps.has] at this
    size := h.size
    blocks := h.blocks
    alien := fun g hg => Nat.lt_of_lt_of_le (h.alien g hg) k2.size }

theorem forget_any (lk : Int) (c : Nat) (w : World) (b : Nat) (s : St) (h : DevIs lk c w b s) :
    Calls Try.prog 36 #[.pointer (some ⟨b, 0, none⟩)] w fun e w' => e = .returned (.tuple #[]) ∧ DevIs lk c w' b (s.forget w.heap.size) ∧ Kept (fun k => k = b) w w' := by
  have hmm := @run_makeMap Try.prog
  have c5 : w.cell? ⟨b, 5, none⟩ = some (.map (some s.mW)) := h.cell 5
  have f5 := h.frozen 5
  have hlt := h.own_lt (.inl rfl)
  have HK0 := forget_is h
  rw [World.setCell_alloc_past _ _ _ _ hlt] at HK0
  have HK : Hid _ := HK0
  clear h HK0
  go_enter Try.func36, Try.ntmps36
  go_wp2
  go_end0
  exact ⟨rfl, HK.out⟩
end Go.Proofs.Ytphnajphgiinfaa
