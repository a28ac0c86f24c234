/- must, the reader's take and number. -/
import Derived.Test.YtgifnaahahfhbaaNews
import Derived.WalkLawsBesides
import Derived.Laws.BitsAllLaws
namespace Go.Proofs.Ytgifnaahahfhbaa
open Go.RowKit

/-- What is given up with. -/
def gaveUp : List PanicEntry := [{ v := .iface 24 (.int .i64 55), recovered := false }]
set_option maxRecDepth 100000 in
theorem must_true (w : World) : Calls Try.prog 42 #[.bool true] w fun e w' => e = .returned (.tuple #[]) ∧ w' = w := by
  go_enter Try.func42, Try.ntmps42
  go_wp2
  go_end0
  exact ⟨rfl, rfl⟩
set_option maxRecDepth 100000 in
theorem must_false (w : World) : Calls Try.prog 42 #[.bool false] w fun e w' => e = .panicked gaveUp ∧ w' = w := by
  go_enter Try.func42, Try.ntmps42
  go_wp2
  exact ⟨rfl, rfl, rfl⟩

/-- The reader's block. -/
structure RBox (w : World) (g : Nat) (v : Value) : Prop where
  row : w.heap[g]? = some (.cells #[v] 68 (0, 0))
theorem RBox.cell {w : World} {g : Nat} {v : Value} (h : RBox w g v) : w.cell? ⟨g, 0, none⟩ = some v := by rw [row_cell h.row]; rfl
theorem RBox.open {w : World} {g : Nat} {v : Value} (h : RBox w g v) : w.frozen? ⟨g, 0, none⟩ = false := row_frozen h.row _
theorem RBox.set {w : World} {g : Nat} {v : Value} (h : RBox w g v) (u : Value) : RBox (w.setCell ⟨g, 0, none⟩ u) g u := ⟨heap_set_same u h.row⟩
theorem RBox.lt {w : World} {g : Nat} {v : Value} (h : RBox w g v) : g < w.heap.size := (Array.getElem?_eq_some_iff.1 h.row).1
theorem RBox.keepR {B : Nat} {w : World} {g : Nat} {v : Value} (h : RBox w g v) (hB : B ≤ g) (u : Value) : Keep 68 B w (w.setCell ⟨g, 0, none⟩ u) := by
  refine ⟨(Below.refl _ _).setCell hB _, fun k cur t z ht hk => ?_⟩
  rw [heap_set_other u]
  · exact hk
  · rintro rfl
    rw [h.row] at hk
    simp only [Option.some.injEq, Obj.cells.injEq] at hk
    exact ht hk.2.1.symm

/-- take: so many bytes. -/
def CutAt (B : Nat) (w : World) (g : Nat) (r : Key) (n : Nat) (e : Ending) (w' : World) : Prop :=
  ∃ u v', e = .returned u ∧ KeyIn B w' u (r.take n) ∧ RBox w' g v' ∧ KeyIn B w' v' (r.drop n) ∧ Keep 68 B w w'

theorem KeyIn.nil (B : Nat) (w : World) : KeyIn B w (.slice none 0 0) [] := ⟨⟨none, 0, rfl, fun j c hj => by simp at hj, Nat.le_refl _, fun _ => rfl⟩, by decide⟩
theorem KeyIn.take {B : Nat} {w : World} {a : Option Addr} {c m : Nat} {ks : Key} (h : KeyIn B w (.slice a ks.length c) ks) (n : Nat) (hn : n ≤ ks.length) (hm : m = n) : KeyIn B w (.slice a m c) (ks.take n) := by
  subst hm
  obtain ⟨⟨a', c', e, h1, h2, h3⟩, h4⟩ := h
  cases e
  exact ⟨⟨a, c, by rw [List.length_take, Nat.min_eq_left hn], h1.take m, by rw [List.length_take]; omega, h3⟩, by rw [List.length_take]; omega⟩

theorem KeyIn.cut {B : Nat} {w : World} {a : Option Addr} {c : Nat} {ks : Key} (h : KeyIn B w (.slice a ks.length c) ks) (n : Nat) (hn : n ≤ ks.length) :
    (c = n → KeyIn B w (.slice a (ks.length - n) (c - n)) (ks.drop n)) ∧ (c ≠ n → KeyIn B w (.slice (Option.map (fun x => x.add n) a) (ks.length - n) (c - n)) (ks.drop n)) := by
  obtain ⟨⟨a', c', e, h1, h2, h3⟩, h4⟩ := id h
  cases e
  constructor
  · intro hc
    have e0 : ks.drop n = [] := List.drop_of_length_le (by omega)
    refine ⟨⟨a, c - n, by rw [List.length_drop], fun j b hj => ?_, by rw [e0]; exact Nat.zero_le _, fun e => by have := h3 e; omega⟩, by rw [e0]; decide⟩
    rw [e0] at hj; simp at hj
  · intro hc
    refine ⟨⟨_, c - n, by rw [List.length_drop], fun j b hj => ?_, by rw [List.length_drop]; omega, fun e => ?_⟩, by rw [List.length_drop]; omega⟩
    · rw [List.getElem?_drop] at hj
      obtain ⟨g', off', e1, hg, hc⟩ := h1 (n + j) b hj
      subst e1
      exact ⟨g', off' + n, by simp [add_at], hg, by rw [Nat.add_assoc]; exact hc⟩
    · cases a with
      | none => have := h3 rfl; omega
      | some x => cases e

set_option maxHeartbeats 800000 in
set_option maxRecDepth 100000 in
theorem take_ok {B : Nat} {w : World} {g : Nat} {v : Value} {r : Key} {n : Nat} (hr : RBox w g v) (hB : B ≤ g) (hv : KeyIn B w v r) (hn : n ≤ r.length) :
    Calls Try.prog 62 #[.pointer (some ⟨g, 0, none⟩), .int .i64 n] w fun e w' => CutAt B w g r n e w' := by
  obtain ⟨a, c, rfl⟩ := hv.form
  have hnz : (n : Int) ≤ (r.length : Int) := by omega
  have hsh := hv.short
  have HV : Hid (KeyIn B w (.slice a r.length c) r) := hv
  have HR : Hid (RBox w g (.slice a r.length c)) := hr
  have k0 := hr.cell
  have f0 := hr.open
  have hnc : n ≤ c := by
    obtain ⟨⟨a', c', e1, _, hc, hn⟩, _⟩ := hv
    cases e1; omega
  have HE : Hid (∀ v', KeyIn B w v' (r.drop n) → CutAt B w g r n (.returned (.slice a n c)) (w.setCell ⟨g, 0, none⟩ v')) := fun v' h' =>
    have hkp := HR.out.keepR hB v'
    ⟨_, v', rfl, (HV.out.take n hn rfl).below hkp.low, HR.out.set v', h'.below hkp.low, hkp⟩
  obtain ⟨HC1, HC2⟩ := HV.out.cut n hn
  have HC1' : Hid _ := HC1
  have HC2' : Hid _ := HC2
  clear hr hv HC1 HC2
  by_cases hcn : c = n
  · go_enter Try.func62, Try.ntmps62
    go_wp2_with (go_at_call 42; refine (must_true _).mono ?_; rintro e w' ⟨rfl, hw'⟩; obtain rfl := hw')
    go_ret
    subst hcn
    exact HE.out _ (by have := HC1'.out rfl; rw [Nat.sub_self] at this; exact this)
  · go_enter Try.func62, Try.ntmps62
    go_wp2_with (go_at_call 42; refine (must_true _).mono ?_; rintro e w' ⟨rfl, hw'⟩; obtain rfl := hw')
    go_ret
    exact HE.out _ (HC2'.out hcn)

set_option maxHeartbeats 800000 in
set_option maxRecDepth 100000 in
theorem take_up {B : Nat} {w : World} {g : Nat} {v : Value} {r : Key} {n : Nat} (hr : RBox w g v) (hv : KeyIn B w v r) (hn : r.length < n) (_hn2 : n < 65536) :
    Calls Try.prog 62 #[.pointer (some ⟨g, 0, none⟩), .int .i64 n] w fun e w' => e = .panicked gaveUp ∧ w' = w := by
  obtain ⟨a, c, rfl⟩ := hv.form
  have hnz : ¬ (n : Int) ≤ (r.length : Int) := by omega
  have k0 := hr.cell
  clear hr hv
  go_enter Try.func62, Try.ntmps62
  go_wp2_with (go_at_call 42; refine (must_false _).mono ?_; rintro e w' ⟨rfl, hw'⟩; obtain rfl := hw')
  exact ⟨rfl, rfl, rfl⟩

theorem KeyIn.byte {B : Nat} {w : World} {u : Value} {ks : Key} (h : KeyIn B w u ks) (j : Nat) (b : UInt8) (hj : ks[j]? = some b) : ∃ g off c, u = .slice (some ⟨g, off, none⟩) ks.length c ∧ w.cell? ⟨g, off + j, none⟩ = some (.int .u8 (b.toNat : Int)) := by
  obtain ⟨⟨a, c, rfl, h1, _⟩, _⟩ := h
  obtain ⟨g, off, rfl, _, hc⟩ := h1 j b hj
  exact ⟨g, off, c, rfl, hc⟩
theorem or_num (x y : UInt8) (t : Key) : bits BinOp.or IntKind.i64 ((x.toNat : Int) * 256) (y.toNat : Int) = (num2 (x :: y :: t) : Nat) := by
  have hx := x.toNat_lt
  have hy := y.toNat_lt
  have e : ((x.toNat : Int) * 256) = ((x.toNat * 256 : Nat) : Int) := by simp
  rw [e]
  have h1 : (BitVec.ofInt 64 ((x.toNat * 256 : Nat) : Int)).toNat = x.toNat * 256 := by
    rw [BitVec.ofInt_natCast, BitVec.toNat_ofNat]; exact Nat.mod_eq_of_lt (by omega)
  have h2 : (BitVec.ofInt 64 (y.toNat : Int)).toNat = y.toNat := by
    rw [BitVec.ofInt_natCast, BitVec.toNat_ofNat]; exact Nat.mod_eq_of_lt (by omega)
  have h3 : x.toNat * 256 ||| y.toNat = 256 * x.toNat + y.toNat := by
    have h := Nat.shiftLeft_add_eq_or_of_lt (b := y.toNat) (i := 8) (by omega) x.toNat
    rw [Nat.shiftLeft_eq] at h
    simp at h
    omega
  show IntKind.i64.wrap ((BitVec.ofInt 64 ((x.toNat * 256 : Nat) : Int) ||| BitVec.ofInt 64 (y.toNat : Int)).toNat : Int) = _
  rw [BitVec.toNat_or, h1, h2, h3]
  simp [num2, IntKind.wrap, IntKind.bits, IntKind.signed]
  omega
set_option maxHeartbeats 800000 in
set_option maxRecDepth 100000 in
theorem number_ok {B : Nat} {w : World} {g : Nat} {v : Value} {r : Key} (hr : RBox w g v) (hB : B ≤ g) (hv : KeyIn B w v r) (hn : 2 ≤ r.length) :
    Calls Try.prog 43 #[.pointer (some ⟨g, 0, none⟩)] w fun e w' => e = .returned (.int .i64 (num2 r : Nat)) ∧ ∃ v', RBox w' g v' ∧ KeyIn B w' v' (r.drop 2) ∧ Keep 68 B w w' := by
  have HT : Hid (Calls Try.prog 62 #[.pointer (some ⟨g, 0, none⟩), .int .i64 2] w fun e w' => CutAt B w g r 2 e w') := take_ok hr hB hv hn
  clear hr hv
  obtain ⟨x, y, t, rfl⟩ : ∃ x y t, r = x :: y :: t := by
    rcases r with _ | ⟨x, _ | ⟨y, t⟩⟩
    · simp at hn
    · simp at hn
    · exact ⟨x, y, t, rfl⟩
  have hx := x.toNat_lt
  have hy := y.toNat_lt
  go_enter Try.func43, Try.ntmps43
  go_wp2_with fail
  refine HT.out.mono ?_
  rintro e w' ⟨u, v', rfl, hu, hr', hv', hk⟩
  have HR : Hid _ := hr'
  have HV : Hid _ := hv'
  have HK : Hid _ := hk
  obtain ⟨g0, o0, c0, rfl, k0⟩ := hu.byte 0 x rfl
  obtain ⟨_, _, _, e1, k1⟩ := hu.byte 1 y rfl
  cases e1
  clear hu hr' hv' hk HT
  simp only [List.take_succ_cons, List.take_zero, List.length_cons, List.length_nil, Nat.zero_add, Nat.add_zero] at k0 k1 ⊢
  go_wp2_with fail
  go_region
  all_goals
    go_wp2
    go_ret
    exact ⟨ret_int (or_num x y t), v', ⟨HR.out.row⟩, HV.out.below ((Below.refl _ _).drew), HK.out.trans (Keep.of ((Below.refl _ _).drew) (Nat.le_trans hB (Nat.le_of_lt HR.out.lt)))⟩
set_option maxHeartbeats 800000 in
set_option maxRecDepth 100000 in
theorem number_up {B : Nat} {w : World} {g : Nat} {v : Value} {r : Key} (hr : RBox w g v) (hv : KeyIn B w v r) (hn : r.length < 2) :
    Calls Try.prog 43 #[.pointer (some ⟨g, 0, none⟩)] w fun e w' => e = .panicked gaveUp ∧ w' = w := by
  have HT : Hid (Calls Try.prog 62 #[.pointer (some ⟨g, 0, none⟩), .int .i64 2] w fun e w' => e = .panicked gaveUp ∧ w' = w) := take_up hr hv hn (by decide)
  clear hr hv
  go_enter Try.func43, Try.ntmps43
  go_wp2_with fail
  refine HT.out.mono ?_
  rintro e w' ⟨rfl, hw'⟩
  obtain rfl := hw'
  exact ⟨rfl, rfl, rfl⟩
end Go.Proofs.Ytgifnaahahfhbaa
