/- Children and keys in memory: rows of numbers, rows of keys; of new memory. -/
import Derived.Test.YtaehchijeinloaaMinus
import Derived.Test.YtaehchijeinloaaBranch
import Derived.Deep.CondSized
import Derived.Lib.SliceRun
namespace Go.Proofs.Ytaehchijeinloaa
open Go.RowKit

theorem KeyIn.here {w w' : World} {v : Value} {ks : Key} (h : KeyIn w.heap.size w v ks) (hb : Below w.heap.size w w') : KeyIn w'.heap.size w' v ks := (h.below hb).mono hb.size
/-- A row of values of one cell each. -/
structure CellsAt (B : Nat) (w : World) (v : Value) (xs : List Value) : Prop where
  is : ∃ a c, v = .slice a xs.length c ∧ xs.length ≤ c ∧ (a = none → c = 0) ∧ ∀ j u, xs[j]? = some u → ∃ g off, a = some ⟨g, off, none⟩ ∧ g < B ∧ w.cell? ⟨g, off + j, none⟩ = some u
theorem CellsAt.below {B : Nat} {w w' : World} {v : Value} {xs : List Value} (h : CellsAt B w v xs) (hb : Below B w w') : CellsAt B w' v xs := by
  obtain ⟨a, c, h1, h2, h3, h4⟩ := h.is
  refine ⟨a, c, h1, h2, h3, fun j u hj => ?_⟩
  obtain ⟨g, off, e1, e2, e3⟩ := h4 j u hj
  exact ⟨g, off, e1, e2, by rw [hb.cell e2]; exact e3⟩
theorem CellsAt.mono {B B' : Nat} {w : World} {v : Value} {xs : List Value} (h : CellsAt B w v xs) (hB : B ≤ B') : CellsAt B' w v xs := by
  obtain ⟨a, c, h1, h2, h3, h4⟩ := h.is
  refine ⟨a, c, h1, h2, h3, fun j u hj => ?_⟩
  obtain ⟨g, off, e1, e2, e3⟩ := h4 j u hj
  exact ⟨g, off, e1, by omega, e3⟩
theorem CellsAt.here {w w' : World} {v : Value} {xs : List Value} (h : CellsAt w.heap.size w v xs) (hb : Below w.heap.size w w') : CellsAt w'.heap.size w' v xs := (h.below hb).mono hb.size
theorem CellsAt.form {B : Nat} {w : World} {v : Value} {xs : List Value} (h : CellsAt B w v xs) : ∃ a c, v = .slice a xs.length c := by
  obtain ⟨a, c, h1, _⟩ := h.is; exact ⟨a, c, h1⟩
theorem CellsAt.cell {B : Nat} {w : World} {v : Value} {xs : List Value} (h : CellsAt B w v xs) (i : Nat) (u : Value) (hi : xs[i]? = some u) :
    ∃ g off c, v = .slice (some ⟨g, off, none⟩) xs.length c ∧ w.cell? ⟨g, off + i, none⟩ = some u := by
  obtain ⟨a, c, h1, h2, h3, h4⟩ := h.is
  obtain ⟨g, off, rfl, _, k0⟩ := h4 _ _ hi
  exact ⟨g, off, c, h1, k0⟩
theorem CellsAt.nil (B : Nat) (w : World) : CellsAt B w (.slice none 0 0) [] := ⟨none, 0, rfl, Nat.le_refl _, fun _ => rfl, fun j u hj => by simp at hj⟩
theorem CellsAt.void (B : Nat) (w : World) (a : Addr) (c : Nat) : CellsAt B w (.slice (some a) 0 c) [] := ⟨_, c, rfl, Nat.zero_le _, fun h => (by cases h), fun j u hj => by simp at hj⟩
theorem CellsAt.take {B : Nat} {w : World} {a : Option Addr} {c n : Nat} {xs : List Value} (h : CellsAt B w (.slice a n c) xs) (k : Nat) (hk : k ≤ n) (c' : Nat) (hc : k ≤ c') (hc2 : c' ≤ c) : CellsAt B w (.slice a k c') (xs.take k) := by
  obtain ⟨a', c'', h1, h2, h3, h4⟩ := h.is
  cases h1
  refine ⟨a, c', by rw [List.length_take, Nat.min_eq_left hk], by rw [List.length_take]; omega, fun e => ?_, fun j u hj => ?_⟩
  · have := h3 e; omega
  · rw [List.getElem?_take] at hj
    split at hj
    · exact h4 j u hj
    · cases hj
theorem CellsAt.drop {B : Nat} {w : World} {a : Addr} {c n : Nat} {xs : List Value} (h : CellsAt B w (.slice (some a) n c) xs) (k : Nat) (hk : k ≤ n) : CellsAt B w (.slice (some ⟨a.block, a.off + k, a.spot⟩) (n - k) (c - k)) (xs.drop k) := by
  obtain ⟨a', c'', h1, h2, h3, h4⟩ := h.is
  cases h1
  by_cases h0 : xs.length - k = 0
  · rw [List.drop_of_length_le (by omega), h0]
    exact CellsAt.void _ _ _ _
  · obtain ⟨x, hx⟩ : ∃ x, xs[0]? = some x := ⟨xs[0]'(by omega), List.getElem?_eq_getElem _⟩
    obtain ⟨g, off, e, hg, _⟩ := h4 0 x hx
    cases e
    refine ⟨_, c - k, by rw [List.length_drop], by rw [List.length_drop]; omega, fun e => (by cases e), fun j u hj => ?_⟩
    rw [List.getElem?_drop] at hj
    obtain ⟨g', off', e1, hg', hc⟩ := h4 (k + j) u hj
    cases e1
    exact ⟨g, off + k, rfl, hg, by rw [Nat.add_assoc]; exact hc⟩
/-- A row that a call owns. -/
theorem own_cells {w : World} {base e : Nat} {v : Value} {n : Nat} {xs : List Value} (h : w.ownsRow base e 1 v n xs) (hn : xs.length = n) : CellsAt w.heap.size w v xs := by
  obtain ⟨_, h2⟩ := h
  rcases h2 with ⟨rfl, h0⟩ | ⟨g, c, cur, rfl, _, hg, hc, _, _, ht⟩
  · have : xs = [] := List.eq_nil_of_length_eq_zero (by omega)
    subst this
    exact CellsAt.nil _ _
  · subst hn
    refine ⟨_, c, rfl, hc, fun h => (by cases h), fun j u hj => ⟨g, 0, rfl, (Array.getElem?_eq_some_iff.1 hg).1, ?_⟩⟩
    rw [Nat.zero_add, row_cell hg]
    have hl := (List.getElem?_eq_some_iff.1 hj).1
    rw [← hj, ← ht, List.getElem?_take, if_pos (by omega), Array.getElem?_toList]

def encI (p : Int) : Value := .int .i64 p
/-- A list of numbers. -/
structure IntsAt (B : Nat) (w : World) (v : Value) (ps : List Int) : Prop where
  row : CellsAt B w v (ps.map encI)
  short : ps.length * 8 ≤ 140737488355328
  fits : ∀ p ∈ ps, -9223372036854775808 ≤ p ∧ p ≤ 9223372036854775807
theorem IntsAt.below {B : Nat} {w w' : World} {v : Value} {ps : List Int} (h : IntsAt B w v ps) (hb : Below B w w') : IntsAt B w' v ps := ⟨h.row.below hb, h.short, h.fits⟩
theorem IntsAt.mono {B B' : Nat} {w : World} {v : Value} {ps : List Int} (h : IntsAt B w v ps) (hB : B ≤ B') : IntsAt B' w v ps := ⟨h.row.mono hB, h.short, h.fits⟩
theorem IntsAt.here {w w' : World} {v : Value} {ps : List Int} (h : IntsAt w.heap.size w v ps) (hb : Below w.heap.size w w') : IntsAt w'.heap.size w' v ps := (h.below hb).mono hb.size
theorem IntsAt.form {B : Nat} {w : World} {v : Value} {ps : List Int} (h : IntsAt B w v ps) : ∃ a c, v = .slice a ps.length c := by
  obtain ⟨a, c, e⟩ := h.row.form; rw [List.length_map] at e; exact ⟨a, c, e⟩
theorem IntsAt.cell {B : Nat} {w : World} {v : Value} {ps : List Int} (h : IntsAt B w v ps) (i : Nat) (p : Int) (hi : ps[i]? = some p) :
    ∃ g off c, v = .slice (some ⟨g, off, none⟩) ps.length c ∧ w.cell? ⟨g, off + i, none⟩ = some (.int .i64 p) := by
  obtain ⟨g, off, c, e, h2⟩ := h.row.cell i (encI p) (by simp [hi])
  rw [List.length_map] at e
  exact ⟨g, off, c, e, h2⟩
theorem IntsAt.nil (B : Nat) (w : World) : IntsAt B w (.slice none 0 0) [] := ⟨CellsAt.nil _ _, by simp, fun p hp => by simp at hp⟩
theorem IntsAt.take {B : Nat} {w : World} {a : Option Addr} {c n : Nat} {ps : List Int} (h : IntsAt B w (.slice a n c) ps) (k : Nat) (hk : k ≤ n) (c' : Nat) (hc : k ≤ c') (hc2 : c' ≤ c) : IntsAt B w (.slice a k c') (ps.take k) :=
  ⟨by rw [List.map_take]; exact h.row.take k hk c' hc hc2, by have := h.short; rw [List.length_take]; omega, fun p hp => h.fits p (List.mem_of_mem_take hp)⟩
theorem IntsAt.drop {B : Nat} {w : World} {a : Addr} {c n : Nat} {ps : List Int} (h : IntsAt B w (.slice (some a) n c) ps) (k : Nat) (hk : k ≤ n) : IntsAt B w (.slice (some ⟨a.block, a.off + k, a.spot⟩) (n - k) (c - k)) (ps.drop k) :=
  ⟨by rw [List.map_drop]; exact h.row.drop k hk, by have := h.short; rw [List.length_drop]; omega, fun p hp => h.fits p (List.mem_of_mem_drop hp)⟩
/-- A key in a row: its value, and what it is. -/
structure Kc where
  v : Value
  k : Key
  deriving Inhabited
/-- A list of keys. -/
structure KeysAt (B : Nat) (w : World) (v : Value) (L : List Kc) : Prop where
  row : CellsAt B w v (L.map Kc.v)
  short : L.length * 24 ≤ 140737488420864
  ok : ∀ e ∈ L, KeyIn B w e.v e.k
theorem KeysAt.below {B : Nat} {w w' : World} {v : Value} {L : List Kc} (h : KeysAt B w v L) (hb : Below B w w') : KeysAt B w' v L := ⟨h.row.below hb, h.short, fun e he => (h.ok e he).below hb⟩
theorem KeysAt.mono {B B' : Nat} {w : World} {v : Value} {L : List Kc} (h : KeysAt B w v L) (hB : B ≤ B') : KeysAt B' w v L := ⟨h.row.mono hB, h.short, fun e he => (h.ok e he).mono hB⟩
theorem KeysAt.here {w w' : World} {v : Value} {L : List Kc} (h : KeysAt w.heap.size w v L) (hb : Below w.heap.size w w') : KeysAt w'.heap.size w' v L := (h.below hb).mono hb.size
theorem KeysAt.form {B : Nat} {w : World} {v : Value} {L : List Kc} (h : KeysAt B w v L) : ∃ a c, v = .slice a L.length c := by
  obtain ⟨a, c, e⟩ := h.row.form; rw [List.length_map] at e; exact ⟨a, c, e⟩
theorem KeysAt.cell {B : Nat} {w : World} {v : Value} {L : List Kc} (h : KeysAt B w v L) (i : Nat) (e : Kc) (hi : L[i]? = some e) :
    ∃ g off c, v = .slice (some ⟨g, off, none⟩) L.length c ∧ w.cell? ⟨g, off + i, none⟩ = some e.v := by
  obtain ⟨g, off, c, e1, h2⟩ := h.row.cell i e.v (by simp [hi])
  rw [List.length_map] at e1
  exact ⟨g, off, c, e1, h2⟩
theorem KeysAt.nil (B : Nat) (w : World) : KeysAt B w (.slice none 0 0) [] := ⟨CellsAt.nil _ _, by simp, fun p hp => by simp at hp⟩
theorem KeysAt.take {B : Nat} {w : World} {a : Option Addr} {c n : Nat} {L : List Kc} (h : KeysAt B w (.slice a n c) L) (k : Nat) (hk : k ≤ n) (c' : Nat) (hc : k ≤ c') (hc2 : c' ≤ c) : KeysAt B w (.slice a k c') (L.take k) :=
  ⟨by rw [List.map_take]; exact h.row.take k hk c' hc hc2, by have := h.short; rw [List.length_take]; omega, fun p hp => h.ok p (List.mem_of_mem_take hp)⟩
theorem KeysAt.drop {B : Nat} {w : World} {a : Addr} {c n : Nat} {L : List Kc} (h : KeysAt B w (.slice (some a) n c) L) (k : Nat) (hk : k ≤ n) : KeysAt B w (.slice (some ⟨a.block, a.off + k, a.spot⟩) (n - k) (c - k)) (L.drop k) :=
  ⟨by rw [List.map_drop]; exact h.row.drop k hk, by have := h.short; rw [List.length_drop]; omega, fun p hp => h.ok p (List.mem_of_mem_drop hp)⟩
def keysOf (L : List Kc) : List Key := L.map Kc.k
theorem keysOf_get {L : List Kc} {i : Nat} {e : Kc} (h : L[i]? = some e) : (keysOf L)[i]? = some e.k := by simp [keysOf, h]
theorem keysOf_length (L : List Kc) : (keysOf L).length = L.length := by simp [keysOf]
/-- Kids. -/
structure KidsAt (B : Nat) (w : World) (v : Value) (ps : List Int) (L : List Kc) : Prop where
  is : ∃ vp vk, v = .agg #[vp, vk] ∧ IntsAt B w vp ps ∧ KeysAt B w vk L
def kd (ps : List Int) (L : List Kc) : Kd := ⟨ps, keysOf L⟩
theorem KidsAt.below {B : Nat} {w w' : World} {v : Value} {ps : List Int} {L : List Kc} (h : KidsAt B w v ps L) (hb : Below B w w') : KidsAt B w' v ps L := by
  obtain ⟨vp, vk, e, h1, h2⟩ := h.is; exact ⟨vp, vk, e, h1.below hb, h2.below hb⟩
theorem KidsAt.mono {B B' : Nat} {w : World} {v : Value} {ps : List Int} {L : List Kc} (h : KidsAt B w v ps L) (hB : B ≤ B') : KidsAt B' w v ps L := by
  obtain ⟨vp, vk, e, h1, h2⟩ := h.is; exact ⟨vp, vk, e, h1.mono hB, h2.mono hB⟩
theorem KidsAt.here {w w' : World} {v : Value} {ps : List Int} {L : List Kc} (h : KidsAt w.heap.size w v ps L) (hb : Below w.heap.size w w') : KidsAt w'.heap.size w' v ps L := (h.below hb).mono hb.size

/-- A block that holds Kids. -/
structure KBox (w : World) (b : Nat) (x y : Value) : Prop where
  row : w.heap[b]? = some (.cells #[x, y] 26 (0, 0))
theorem KBox.lt {w : World} {b : Nat} {x y : Value} (h : KBox w b x y) : b < w.heap.size := (Array.getElem?_eq_some_iff.1 h.row).1
theorem KBox.cells {w : World} {b : Nat} {x y : Value} (h : KBox w b x y) : w.cell? ⟨b, 0, none⟩ = some x ∧ w.cell? ⟨b, 1, none⟩ = some y :=
  ⟨by rw [row_cell h.row]; rfl, by rw [row_cell h.row]; rfl⟩
theorem KBox.open {w : World} {b : Nat} {x y : Value} (h : KBox w b x y) : w.frozen? ⟨b, 0, none⟩ = false ∧ w.frozen? ⟨b, 1, none⟩ = false :=
  ⟨row_frozen h.row _, row_frozen h.row _⟩
theorem KBox.here {w w' : World} {b : Nat} {x y : Value} (h : KBox w b x y) (hb : Below w.heap.size w w') : KBox w' b x y := ⟨by rw [hb.block b h.lt]; exact h.row⟩
theorem KBox.new (w : World) (x y : Value) : KBox (w.alloc (.cells #[x, y] 26)) w.heap.size x y := ⟨heap_alloc_last _ _⟩
theorem KBox.draws {w : World} {b : Nat} {x y : Value} (h : KBox w b x y) (n : Nat) : KBox (w.drewN n) b x y := ⟨h.row⟩
theorem KBox.put {w : World} {b : Nat} {x y : Value} (h : KBox w b x y) (x' y' : Value) : KBox ((w.setCell ⟨b, 0, none⟩ x').setCell ⟨b, 1, none⟩ y') b x' y' := ⟨heap_set_same y' (heap_set_same x' h.row)⟩
theorem KBox.set0 {w : World} {b : Nat} {x y : Value} (h : KBox w b x y) (x' : Value) : KBox (w.setCell ⟨b, 0, none⟩ x') b x' y := ⟨heap_set_same x' h.row⟩
theorem KBox.set1 {w : World} {b : Nat} {x y : Value} (h : KBox w b x y) (y' : Value) : KBox (w.setCell ⟨b, 1, none⟩ y') b x y' := ⟨heap_set_same y' h.row⟩
theorem KBox.other {w : World} {b c i : Nat} {x y : Value} (h : KBox w b x y) (v : Value) (hc : b ≠ c) : KBox (w.setCell ⟨c, i, none⟩ v) b x y := ⟨by rw [heap_set_other v hc]; exact h.row⟩
theorem infoKs : (Try.prog.info? 26).map (·.size) = some 2 := by kernel_rfl
theorem ret_kids {fn : Func} {p : Tmp} (h : fn.results = #[.cell p 26]) {tmps : Array Value} {w : World} {b : Nat} {x y : Value} (hp : tmps.getD p undef = .pointer (some ⟨b, 0, none⟩)) (hB : KBox w b x y) :
    (results fn tmps).run Try.prog w = .ok (.agg #[x, y]) w :=
  results_cell_row h tmps w b 26 #[x, y] (0, 0) _ hp hB.row Try.underlying26 rfl infoKs

theorem infoIz : (Try.prog.info? 3).map (fun i => (i.zero, i.size, i.bytes)) = some (some (.int .i64 0), 1, 8) := by kernel_rfl
theorem infoI' : ∃ i, Try.prog.info? 3 = some i ∧ i.zero = some (.int .i64 0) ∧ i.size = 1 ∧ i.bytes = 8 := by
  have h := infoIz
  cases hi : Try.prog.info? 3 with
  | none => rw [hi] at h; simp at h
  | some i => rw [hi] at h; simp at h; exact ⟨i, rfl, h⟩
theorem infoBz : (Try.prog.info? 27).map (fun i => (i.zero, i.size, i.bytes)) = some (some (.slice none 0 0), 1, 24) := by kernel_rfl
theorem infoB' : ∃ i, Try.prog.info? 27 = some i ∧ i.zero = some (.slice none 0 0) ∧ i.size = 1 ∧ i.bytes = 24 := by
  have h := infoBz
  cases hi : Try.prog.info? 27 with
  | none => rw [hi] at h; simp at h
  | some i => rw [hi] at h; simp at h; exact ⟨i, rfl, h⟩
end Go.Proofs.Ytaehchijeinloaa
