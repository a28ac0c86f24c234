/- A device that is not armed and whose power is on: what each method does, beside memory that stays. -/
import Derived.Test.YtphnajphgiinfaaWrite
namespace Go.Proofs.Ytphnajphgiinfaa
open Go.RowKit Go.Maps Go.MuLone Go.Sort

/-- A device made behind the world w0, which has stayed as it was. -/
structure Run (c : Nat) (b : Nat) (w0 w : World) (s : St) : Prop where
  dev : DevIs 0 c w b s
  old : Below w0.heap.size w0 w
  new : ∀ k, Own b s k → w0.heap.size ≤ k

theorem Kept.below {S : Nat → Prop} {w w' : World} {N : Nat} (k : Kept S w w') (hS : ∀ i, S i → N ≤ i) (hN : N ≤ w.heap.size) : Below N w w' :=
  ⟨k.os, k.tape, k.output, k.size, fun i hi => k.block i (Nat.lt_of_lt_of_le hi hN) (fun hs => by have := hS i hs; omega)⟩

theorem Run.next {c c' : Nat} {b : Nat} {w0 w w' : World} {s s' : St} (h : Run c b w0 w s) (hd : DevIs 0 c' w' b s') (k : Kept (Own b s) w w') (ho : ∀ i, Own b s' i → Own b s i ∨ w.heap.size ≤ i) : Run c' b w0 w' s' :=
  ⟨hd, h.old.trans (k.below h.new h.old.size), fun i hi => (ho i hi).elim (h.new i) (fun x => Nat.le_trans h.old.size x)⟩

theorem Run.below {c : Nat} {b : Nat} {w0 w w' : World} {s : St} (h : Run c b w0 w s) (k : Below w.heap.size w w') : Run c b w0 w' s :=
  ⟨h.dev.below k, h.old.trans (k.mono h.old.size), h.new⟩

/-- The power is on, and the device is not armed. -/
structure Calm (s : St) : Prop where
  off : s.off = false
  ch : s.ch = 0

theorem calm_ch {s : St} (h : Calm s) : (s.ch == 1) = false := by rw [h.ch]; rfl

theorem run_write (c : Nat) (w0 w : World) (b : Nat) (s : St) (h : Run c b w0 w s) (hs : Calm s) (hc : c ≤ 549755813888) (n : Int) (hn : (Lit.int .i64 n).wf = true) (hml : (s.waits n).length ≤ 1099511627776) (hr : inRange n s.blocks = true) (bv : Value) (bs : List UInt8) (hb : bytesAt w s.size bv bs) :
    Calls Try.prog 11 #[.pointer (some ⟨b, 0, none⟩), .int .i64 n, bv] w fun e w' => e = .returned (.int .i64 0) ∧ ∃ s', Run (c + 1) b w0 w' s' ∧ Calm s' ∧ s'.size = s.size ∧ s'.blocks = s.blocks ∧ s'.lasts = s.lasts ∧
      s'.waits = (fun m => if m = n then s.waits n ++ [bs] else s.waits m) ∧ s'.X = s.X := by
  refine (write_on c w b s h.dev hc hs.off n hn hml hr bv bs hb).mono ?_
  rintro e w' ⟨t, t', k, ho, hd, he⟩
  rw [calm_ch hs] at he
  simp only [Bool.false_eq_true, if_false] at he
  obtain ⟨⟨v, rfl⟩, rfl, rfl⟩ := he
  refine ⟨rfl, _, h.next hd k ho, ⟨hs.off, ?_⟩, rfl, rfl, rfl, rfl, rfl⟩
  show max (wrap64 (s.ch - 1)) 0 = 0
  rw [hs.ch]; decide +kernel

theorem run_barrier (c : Nat) (w0 w : World) (b : Nat) (s : St) (h : Run c b w0 w s) (hs : Calm s) (hc : c ≤ 549755813888) :
    Calls Try.prog 13 #[.pointer (some ⟨b, 0, none⟩)] w fun e w' => e = .returned (.int .i64 0) ∧ ∃ s', Run (2 * c) b w0 w' s' ∧ Calm s' ∧ s'.size = s.size ∧ s'.blocks = s.blocks ∧ s'.lasts = settledTo s (fun _ => false) ∧
      s'.waits = (fun _ => []) ∧ s'.X = s.X := by
  refine (barrier_on c w b s h.dev hc hs.off).mono ?_
  rintro e w' ⟨t, t', k, ho, hd, he⟩
  rw [calm_ch hs] at he
  simp only [Bool.false_eq_true, if_false] at he
  obtain ⟨⟨m, D, rfl⟩, rfl, rfl⟩ := he
  refine ⟨rfl, _, h.next hd k ho, ⟨hs.off, ?_⟩, rfl, rfl, rfl, rfl, rfl⟩
  show max (wrap64 (s.ch - 1)) 0 = 0
  rw [hs.ch]; decide +kernel

theorem run_read (c : Nat) (w0 w : World) (b : Nat) (s : St) (h : Run c b w0 w s) (hs : Calm s) (n : Int) (hn : (Lit.int .i64 n).wf = true) (hr : inRange n s.blocks = true) (bs : List UInt8) (hsh : shows s n = some bs) :
    Calls Try.prog 26 #[.pointer (some ⟨b, 0, none⟩), .int .i64 n] w fun e w' => ∃ v, e = .returned (.tuple #[v, .int .i64 0]) ∧ w'.ownsRow w.heap.size 5 1 v s.size (bs.map encB) ∧
      ∃ s', Run c b w0 w' s' ∧ Calm s' ∧ s'.size = s.size ∧ s'.blocks = s.blocks ∧ s'.lasts = s.lasts ∧ s'.waits = s.waits ∧ (∀ i, Own b s' i → Own b s i) ∧ Kept (fun k => k = b) w w' ∧ s'.X = s.X := by
  refine (read_ok c w b s h.dev n hn hs.off hr bs hsh).mono ?_
  rintro e w' ⟨v, rfl, hrow, _, hd, k⟩
  exact ⟨v, rfl, hrow, _, h.next hd (k.mono (fun i _ e => own_b i e)) (fun i hi => .inl hi), ⟨hs.off, hs.ch⟩, rfl, rfl, rfl, rfl, fun _ x => x, k, rfl⟩

theorem run_restart (c : Nat) (w0 w : World) (b : Nat) (s : St) (h : Run c b w0 w s) (hc : c ≤ 549755813888) (a : Option Addr) (fates : List Int) (cap : Nat) (hfa : fatesAt w b s a fates)
    (hml : ∀ n, (s.waits n).length ≤ 1099511627776) :
    Calls Try.prog 15 #[.pointer (some ⟨b, 0, none⟩), .slice a fates.length cap] w fun e w' => e = .returned (.tuple #[]) ∧
      ∃ s', Run (2 * c) b w0 w' s' ∧ Calm s' ∧ s'.size = s.size ∧ s'.blocks = s.blocks ∧ s'.lasts = metTo s (intKeys s.DW) fates (intKeys s.DW).length ∧ s'.waits = (fun _ => []) ∧ Kept (fun k => k = b ∨ k = s.mL) w w' ∧ s'.X = s.X := by
  refine (restart_any c w b s h.dev hc a fates cap hfa hml).mono ?_
  rintro e w' ⟨m, D, rfl, hm, hd, k⟩
  refine ⟨rfl, _, h.next hd (k.mono (fun i _ e => e.elim (fun e => .inl e) (fun e => .inr (.inl e)))) ?_, ⟨rfl, rfl⟩, rfl, rfl, rfl, rfl, k, rfl⟩
  intro i hi
  rcases hi with e | e | e | ⟨n, v, hv, _⟩
  · exact .inl (.inl e)
  · exact .inl (.inr (.inl e))
  · exact .inr (by rw [e]; exact hm)
  · have := valAt_has hv
    simp [St.restart, Maps.has] at this

theorem run_pending (c : Nat) (w0 w : World) (b : Nat) (s : St) (h : Run c b w0 w s) (hc : c ≤ 1099511627776) :
    Calls Try.prog 14 #[.pointer (some ⟨b, 0, none⟩)] w fun e w' => ∃ v, e = .returned v ∧ w'.ownsRow w.heap.size 43 2 v (intKeys s.DW).length (pendCells s (intKeys s.DW)) ∧ Run c b w0 w' s ∧ Kept (fun k => k = b) w w' := by
  refine (pending_any c w b s h.dev hc).mono ?_
  rintro e w' ⟨v, rfl, hrow, hd, k⟩
  exact ⟨v, rfl, hrow, h.next hd (k.mono (fun i _ e => own_b i e)) (fun i hi => .inl hi), k⟩

/-- The keys of what waits. -/
theorem keys_are {lk : Int} {c : Nat} {w : World} {b : Nat} {s : St} (h : DevIs lk c w b s) (n : Int) : n ∈ intKeys s.DW ↔ s.waits n ≠ [] := by
  obtain ⟨_, k2, _⟩ := keys_facts h.mapW
  rw [k2]
  constructor
  · intro hh e
    have := waitAt_none (h.wait n) e
    rw [hh] at this
    cases this
  · intro hne
    obtain ⟨v, hv, _⟩ := waitAt_some (h.wait n) hne
    exact valAt_has hv

theorem keys_one {lk : Int} {c : Nat} {w : World} {b : Nat} {s : St} (h : DevIs lk c w b s) (n : Int) (l : List (List UInt8)) (hl : l ≠ []) (hw : s.waits = fun m => if m = n then l else []) : intKeys s.DW = [n] := by
  obtain ⟨k1, _⟩ := keys_facts h.mapW
  have hm := keys_are h
  have hmem : ∀ m, m ∈ intKeys s.DW ↔ m = n := by
    intro m
    rw [hm, hw]
    by_cases e : m = n <;> simp [e, hl]
  match hk : intKeys s.DW with
  | [] => have := (hmem n).2 rfl; rw [hk] at this; cases this
  | [x] => have := (hmem x).1 (by rw [hk]; simp); rw [this]
  | x :: y :: r =>
    have h1 := (hmem x).1 (by rw [hk]; simp)
    have h2 := (hmem y).1 (by rw [hk]; simp)
    rw [hk] at k1
    have := (List.pairwise_cons.1 k1).1 y (by simp)
    omega
end Go.Proofs.Ytphnajphgiinfaa
