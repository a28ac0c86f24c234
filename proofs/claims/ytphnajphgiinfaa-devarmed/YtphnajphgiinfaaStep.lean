/- What a step does to a device, told of its state alone; and that 'did' does just that. -/
import Derived.Test.YtphnajphgiinfaaDidMore
namespace Go.Proofs.Ytphnajphgiinfaa
open Go.RowKit Go.Maps Go.MuLone Go.Sort

/-- A device, but for where it lies. -/
structure Ab where
  size : Nat
  blocks : Nat
  off : Bool
  ch : Int
  how : Int
  done : Bool
  lasts : Int → Option (Option (List UInt8))
  waits : Int → List (List UInt8)

def St.ab (s : St) : Ab := ⟨s.size, s.blocks, s.off, s.ch, s.how, s.done, s.lasts, s.waits⟩

/-- Only blocks that are there are told of; at most k writes of one wait. -/
def Ab.good (a : Ab) (k : Nat) : Prop := (∀ n, a.lasts n ≠ none → inRange n a.blocks = true) ∧ (∀ n, a.waits n ≠ [] → inRange n a.blocks = true) ∧ ∀ n, (a.waits n).length ≤ k

theorem rising_short (B : Int) : ∀ (l : List Int) (lo : Int), l.Pairwise (· < ·) → (∀ x ∈ l, lo ≤ x ∧ x < B) → (l.length : Int) ≤ max 0 (B - lo)
  | [], lo, _, _ => by simp; omega
  | x :: r, lo, hp, hin => by
    obtain ⟨h1, h2⟩ := List.pairwise_cons.1 hp
    have hx := hin x (List.mem_cons_self ..)
    have ih := rising_short B r (x + 1) h2 (fun y hy => ⟨by have := h1 y hy; omega, (hin y (List.mem_cons_of_mem _ hy)).2⟩)
    simp only [List.length_cons]
    omega

theorem tight_map {w : World} {R : Value → Option (DataW Value × List MemPlace)} {m c B : Nat} {D : DataW Value} (h : w.ownsMap Try.prog 3 R m c D) (hin : ∀ n, Maps.has D (key n) = true → inRange n B = true) : w.ownsMap Try.prog 3 R m B D := by
  obtain ⟨k1, k2, k3, k4, k5⟩ := keys_facts h
  have hl : (intKeys D).length ≤ B := by
    have := rising_short (B : Int) (intKeys D) 0 k1 (fun x hx => by
      have := hin x ((k2 x).1 hx)
      simp [inRange] at this
      omega)
    omega
  obtain ⟨es, cl, hb, F, hs, hD⟩ := h
  refine ⟨es, cl, hb, F, ?_, hD⟩
  have e : Maps.size D = es.size := by
    rw [hD]
    simp only [Maps.size, length_sorted]
    simp
  omega

theorem DevIs.tight {lk : Int} {c k : Nat} {w : World} {b : Nat} {s : St} (h : DevIs lk c w b s) (g : s.ab.good k) : DevIs lk 65536 w b s :=
  { h with
    mapL := (tight_map (B := s.blocks) h.mapL (fun n hn => g.1 n (fun e => by
      have := h.last n
      unfold lastAt at this
      rw [show s.lasts n = none from e] at this
      rw [this] at hn
      cases hn))).mono h.blocks
    mapW := (tight_map (B := s.blocks) h.mapW (fun n hn => g.2.1 n (fun e => by
      have := waitAt_none (h.wait n) e
      rw [this] at hn
      cases hn))).mono h.blocks }

def Ab.fired (a : Ab) : Ab := { a with ch := 0, how := 0, done := false, off := if a.how == 1 then a.off else true }
def Ab.ticked (a : Ab) : Ab := { a with ch := max (wrap64 (a.ch - 1)) 0 }
def Ab.ends (a r : Ab) : Ab × Int := if a.ch == 1 then ((if a.done then r else a).fired, if a.how == 1 then 13 else 12) else (r.ticked, 0)
def Ab.wrote (a : Ab) (n : Int) (bs : List UInt8) : Ab := { a with waits := fun m => if m = n then a.waits n ++ [bs] else a.waits m }
def Ab.settled (a : Ab) : Ab := { a with lasts := fun n => if a.waits n ≠ [] ∧ (fun _ : Lit => false) (key n) = false then some (a.waits n).getLast? else a.lasts n, waits := fun _ => [] }

/-- A step's end. -/
def DidTo (b : Nat) (s : St) (r : Ab × Int) (w : World) (e : Ending) (w' : World) : Prop :=
  ∃ t c, DevIs 0 c w' b t ∧ t.ab = r.1 ∧ t.X = s.X ∧ e = .returned (.int .i64 r.2) ∧ Kept (Own b s) w w' ∧ ∀ k, Own b t k → Own b s k ∨ w.heap.size ≤ k

theorem DidTo.after {b : Nat} {s : St} {r : Ab × Int} {w w1 w' : World} {e : Ending} (hb : Below w.heap.size w w1) (h : DidTo b s r w1 e w') : DidTo b s r w e w' := by
  obtain ⟨t, c, h1, h2, h3, h4, h5, h6⟩ := h
  exact ⟨t, c, h1, h2, h3, h4, (Kept.of_below (S := Own b s) hb).trans h5 (fun _ _ x => x), fun k hk => (h6 k hk).imp id (fun x => Nat.le_trans hb.size x)⟩

theorem DidTo.same {b c : Nat} {s : St} {z : Int} {w w' : World} {e : Ending} (he : e = .returned (.int .i64 z)) (h : DevIs 0 c w' b s) (k : Kept (fun k => k = b) w w') : DidTo b s (s.ab, z) w e w' :=
  ⟨s, c, h, rfl, rfl, he, k.mono (fun _ _ x => .inl x), fun _ hk => .inl hk⟩

theorem ends_of {c b : Nat} {s : St} {R : St → Prop} {fin : St → St} {w w' : World} {e : Ending} (h : EndIs c b s R fin w e w') (r : Ab) (hR : ∀ t, R t → t.ab = r ∧ t.X = s.X) (hfin : ∀ t : St, (fin t).ab = t.ab ∧ (fin t).X = t.X) :
    DidTo b s (s.ab.ends r) w e w' := by
  obtain ⟨t, t', hk, ho, hd, hif⟩ := h
  refine ⟨t', c, hd, ?_⟩
  unfold Ab.ends
  cases hch : s.ch == 1 with
  | true =>
    rw [hch] at hif
    simp only [if_true] at hif
    obtain ⟨h1, rfl, rfl⟩ := hif
    have e1 : (s.ab.ch == 1) = true := hch
    rw [e1]
    simp only [if_true]
    cases hdn : s.done with
    | true =>
      rw [hdn] at h1
      simp only [if_true] at h1
      obtain ⟨ha, hx⟩ := hR t h1
      have e2 : s.ab.done = true := hdn
      rw [e2]
      simp only [if_true]
      exact ⟨by rw [← ha]; rfl, hx, rfl, hk, ho⟩
    | false =>
      rw [hdn] at h1
      simp only [Bool.false_eq_true, if_false] at h1
      subst h1
      have e2 : t.ab.done = false := hdn
      rw [e2]
      simp only [Bool.false_eq_true, if_false]
      exact ⟨rfl, rfl, rfl, hk, ho⟩
  | false =>
    rw [hch] at hif
    simp only [Bool.false_eq_true, if_false] at hif
    obtain ⟨h1, rfl, rfl⟩ := hif
    obtain ⟨ha, hx⟩ := hR t h1
    have e1 : (s.ab.ch == 1) = false := hch
    rw [e1]
    simp only [Bool.false_eq_true, if_false]
    obtain ⟨f1, f2⟩ := hfin t.ticked
    exact ⟨by rw [f1, ← ha]; rfl, by rw [f2]; exact hx, by first | rfl | trivial, hk, ho⟩

/-- The blocks of which something waits, rising. -/
noncomputable def Ab.keys (a : Ab) : List Int :=
  open Classical in if h : ∃ K : List Int, K.Pairwise (· < ·) ∧ ∀ n, n ∈ K ↔ a.waits n ≠ [] then h.choose else []
theorem rising_eq : ∀ (k l : List Int), k.Pairwise (· < ·) → l.Pairwise (· < ·) → (∀ n, n ∈ k ↔ n ∈ l) → k = l
  | [], [], _, _, _ => rfl
  | [], y :: l, _, _, h => by have := (h y).2 (List.mem_cons_self ..); cases this
  | x :: k, [], _, _, h => by have := (h x).1 (List.mem_cons_self ..); cases this
  | x :: k, y :: l, hk, hl, h => by
    obtain ⟨k1, k2⟩ := List.pairwise_cons.1 hk
    obtain ⟨l1, l2⟩ := List.pairwise_cons.1 hl
    have hxy : x = y := by
      have a1 := (h x).1 (List.mem_cons_self ..)
      have a2 := (h y).2 (List.mem_cons_self ..)
      rcases List.mem_cons.1 a1 with e | e
      · exact e
      · rcases List.mem_cons.1 a2 with e2 | e2
        · exact e2.symm
        · have := l1 x e
          have := k1 y e2
          omega
    subst hxy
    congr 1
    refine rising_eq k l k2 l2 (fun n => ⟨fun hn => ?_, fun hn => ?_⟩)
    · have hlt := k1 n hn
      rcases List.mem_cons.1 ((h n).1 (List.mem_cons_of_mem _ hn)) with e | e
      · omega
      · exact e
    · have hlt := l1 n hn
      rcases List.mem_cons.1 ((h n).2 (List.mem_cons_of_mem _ hn)) with e | e
      · omega
      · exact e
theorem keys_ab {lk : Int} {c : Nat} {w : World} {b : Nat} {s : St} (h : DevIs lk c w b s) : intKeys s.DW = s.ab.keys := by
  obtain ⟨k1, _⟩ := keys_facts h.mapW
  have hex : ∃ K : List Int, K.Pairwise (· < ·) ∧ ∀ n, n ∈ K ↔ s.ab.waits n ≠ [] := ⟨intKeys s.DW, k1, fun n => keys_are h n⟩
  have e : s.ab.keys = hex.choose := dif_pos hex
  rw [e]
  exact rising_eq _ _ k1 hex.choose_spec.1 (fun n => (keys_are h n).trans (hex.choose_spec.2 n).symm)

def Ab.met (a : Ab) (K fates : List Int) : Nat → Int → Option (Option (List UInt8))
  | 0 => a.lasts
  | k + 1 => fun m => match K[k]?, fates[k]? with
    | some n, some f => if m = n then (match fateOf (a.waits n) f with | some r => some r | none => a.met K fates k m) else a.met K fates k m
    | _, _ => a.met K fates k m
theorem met_ab (s : St) (K fates : List Int) (k : Nat) : metTo s K fates k = s.ab.met K fates k := by
  induction k with
  | zero => rfl
  | succ k ih =>
    funext m
    simp only [metTo, Ab.met, ih]
    rfl
noncomputable def Ab.restart (a : Ab) (fates : List Int) : Ab := { a with lasts := a.met a.keys fates a.keys.length, waits := fun _ => [], off := false, ch := 0, how := 0, done := false }

def Ab.shows (a : Ab) (n : Int) : Option (List UInt8) :=
  match (a.waits n).getLast? with
  | some bs => some bs
  | none => match a.lasts n with
    | none => some (List.replicate a.size 0)
    | some r => r
def Ab.flipped (a : Ab) (n : Int) (k : Nat) (x : UInt8) : Ab × Int :=
  match a.shows n with
  | none => (a, 14)
  | some bs => if a.waits n = [] then ({ a with lasts := fun m => if m = n then some (some (turned bs k x)) else a.lasts m }, 0)
    else ({ a with waits := fun m => if m = n then (a.waits n).dropLast ++ [turned bs k x] else a.waits m }, 0)

/-- A step of a script. -/
structure OpA where
  kind : Int
  A : Int
  B : Int
  v : UInt8
  T : List UInt8
  fates : List Int
  dn : Bool

noncomputable def Ab.step (a : Ab) (o : OpA) : Ab × Int :=
  if o.kind = 3 then (if a.off = true then (a, 12) else if inRange o.A a.blocks = false then (a, 11) else a.ends (a.wrote o.A (madeOf a.size o.v o.T)))
  else if o.kind = 4 then (if a.off = true then (a, 12) else a.ends a.settled)
  else if o.kind = 5 then (if a.off = true then (a, 12) else if armOk o.A o.B = true then ({ a with ch := o.A, how := o.B, done := o.dn }, 0) else (a, 1))
  else if o.kind = 7 then (a.restart o.fates, 0)
  else if o.kind = 8 then (if a.off = true then (a, 12) else if inRange o.A a.blocks = false ∨ inRange o.B a.size = false then (a, 11) else a.flipped o.A o.B.toNat o.v)
  else (a, 0)

theorem Ab.good.mono {a : Ab} {k k' : Nat} (h : a.good k) (hk : k ≤ k') : a.good k' := ⟨h.1, h.2.1, fun n => Nat.le_trans (h.2.2 n) hk⟩
theorem met_some (a : Ab) (K fates : List Int) (k : Nat) (n : Int) (h : a.met K fates k n ≠ none) : a.lasts n ≠ none ∨ n ∈ K := by
  induction k with
  | zero => exact .inl h
  | succ k ih =>
    simp only [Ab.met] at h
    split at h
    · rename_i m f hm hf
      split at h
      · rename_i e
        exact .inr (by rw [e]; exact List.mem_of_getElem? hm)
      · exact ih h
    · exact ih h
theorem keys_mem (a : Ab) (n : Int) (h : n ∈ a.keys) : a.waits n ≠ [] := by
  unfold Ab.keys at h
  split at h
  · rename_i hex
    exact (hex.choose_spec.2 n).1 h
  · cases h
theorem good_ends {a r : Ab} {k : Nat} (h : a.good k) (hr : r.good k) : (a.ends r).1.good k := by
  unfold Ab.ends
  split
  · split
    · exact ⟨hr.1, hr.2.1, hr.2.2⟩
    · exact ⟨h.1, h.2.1, h.2.2⟩
  · exact ⟨hr.1, hr.2.1, hr.2.2⟩
theorem good_flipped {a : Ab} {k : Nat} (h : a.good k) {n : Int} (hn : inRange n a.blocks = true) (j : Nat) (x : UInt8) : (a.flipped n j x).1.good k := by
  unfold Ab.flipped
  split
  · exact h
  · split
    · refine ⟨fun m hm => ?_, h.2.1, h.2.2⟩
      by_cases e : m = n
      · rw [e]; exact hn
      · refine h.1 m (fun e2 => hm ?_)
        show (if m = n then _ else a.lasts m) = none
        rw [if_neg e, e2]
    · rename_i hne
      refine ⟨h.1, fun m hm => ?_, fun m => ?_⟩
      · by_cases e : m = n
        · rw [e]; exact hn
        · refine h.2.1 m (fun e2 => hm ?_)
          show (if m = n then _ else a.waits m) = []
          rw [if_neg e, e2]
      · show (if m = n then _ else a.waits m).length ≤ k
        by_cases e : m = n
        · rw [if_pos e]
          have := h.2.2 n
          have hp := List.length_pos_iff.2 hne
          simp
          omega
        · rw [if_neg e]; exact h.2.2 m
theorem good_step {a : Ab} {k : Nat} (h : a.good k) (o : OpA) : (a.step o).1.good (k + 1) := by
  have h1 := h.mono (Nat.le_succ k)
  unfold Ab.step
  split
  · split
    · exact h1
    · split
      · exact h1
      · rename_i hr
        refine good_ends h1 ⟨h.1, fun m hm => ?_, fun m => ?_⟩
        · by_cases e : m = o.A
          · rw [e]
            cases hh : inRange o.A a.blocks with
            | true => exact hh
            | false => exact absurd hh hr
          · refine h.2.1 m (fun e2 => hm ?_)
            show (if m = o.A then _ else a.waits m) = []
            rw [if_neg e, e2]
        · show (if m = o.A then a.waits o.A ++ [_] else a.waits m).length ≤ k + 1
          by_cases e : m = o.A
          · rw [if_pos e]; have := h.2.2 o.A; simp; omega
          · rw [if_neg e]; exact Nat.le_trans (h.2.2 m) (Nat.le_succ k)
  · split
    · split
      · exact h1
      · refine good_ends h1 ⟨fun m hm => ?_, fun m hm => absurd rfl hm, fun m => Nat.zero_le _⟩
        by_cases e : a.waits m = []
        · refine h.1 m (fun e2 => hm ?_)
          show (if a.waits m ≠ [] ∧ _ then _ else a.lasts m) = none
          rw [if_neg (fun x => x.1 e), e2]
        · exact h.2.1 m e
    · split
      · split
        · exact h1
        · split
          · exact ⟨h1.1, h1.2.1, h1.2.2⟩
          · exact h1
      · split
        · refine ⟨fun m hm => ?_, fun m hm => absurd rfl hm, fun m => Nat.zero_le _⟩
          rcases met_some a a.keys o.fates a.keys.length m hm with e | e
          · exact h.1 m e
          · exact h.2.1 m (keys_mem a m e)
        · split
          · split
            · exact h1
            · split
              · exact h1
              · rename_i hr
                have hn : inRange o.A a.blocks = true := by
                  cases hh : inRange o.A a.blocks with
                  | true => rfl
                  | false => exact absurd (.inl hh) hr
                exact (good_flipped h hn _ _).mono (Nat.le_succ k)
          · exact h1

/-- Numbers that came in. -/
def FatesIn (N : Nat) (w : World) (a : Option Addr) (fates : List Int) : Prop :=
  ∀ (i : Nat) f, fates[i]? = some f → ∃ g off, a = some ⟨g, off, none⟩ ∧ g < N ∧ w.cell? ⟨g, off + i, none⟩ = some (.int .i64 f)

theorem didR {b : Nat} {s : St} {r : Ab × Int} {w w' : World} {e : Ending} (h : DidTo b s r w e w') : DidTo b s r w e w' ∧ ∃ z, e = .returned (.int .i64 z) := ⟨h, by obtain ⟨_, _, _, _, _, he, _⟩ := h; exact ⟨_, he⟩⟩

theorem own_eq {b : Nat} {s t : St} (h1 : t.mL = s.mL) (h2 : t.mW = s.mW) (h3 : t.DW = s.DW) (k : Nat) (h : Own b t k) : Own b s k := by
  unfold Own at *
  rw [h1, h2, h3] at h
  exact h

theorem did_any (w : World) (b : Nat) (s : St) (k : Nat) (h : DevIs 0 65536 w b s) (hg : s.ab.good k) (hk : k ≤ 1099511627776) (N : Nat) (hN : N ≤ w.heap.size) (hown : ∀ i, Own b s i → N ≤ i) (o : OpA) (on : Int) (aT aF : Option Addr) (capT capF : Nat)
    (hA : (Lit.int .i64 o.A).wf = true) (hT : BytesIn N w aT o.T) (hF : FatesIn N w aF o.fates) :
    Calls Try.prog 21 #[.pointer (some ⟨b, 0, none⟩), .agg #[.int .i64 o.kind, .int .i64 on, .int .i64 o.A, .int .i64 o.B, .int .u8 (o.v.toNat : Int), .slice aT o.T.length capT, .slice aF o.fates.length capF, .bool o.dn]] w (DidTo b s (s.ab.step o) w) := by
  have hml : ∀ n, (s.waits n).length ≤ 1099511627776 := fun n => Nat.le_trans (hg.2.2 n) hk
  unfold Ab.step
  by_cases h3 : o.kind = 3
  · rw [if_pos h3, h3]
    refine (did_write 65536 w b s h (by decide) on o.A o.B hA (hml _) o.v aT aF capT o.fates.length capF o.T (fun j c hj => by obtain ⟨g, off, e1, e2, e3⟩ := hT j c hj; exact ⟨g, off, e1, by omega, e3⟩) o.dn).mono ?_
    rintro e w' ⟨w1, hb1, h1, hw⟩
    refine DidTo.after hb1 ?_
    unfold WriteIs at hw
    have eo : s.ab.off = s.off := rfl
    rw [eo]
    split at hw
    · rename_i hoff
      rw [if_pos hoff]
      exact DidTo.same hw.1 hw.2.1 hw.2.2
    · rename_i hoff
      rw [if_neg hoff]
      have eb : s.ab.blocks = s.blocks := rfl
      rw [eb]
      split at hw
      · rename_i hr
        rw [if_pos hr]
        exact DidTo.same hw.1 hw.2.1 hw.2.2
      · rename_i hr
        rw [if_neg hr]
        exact ends_of hw _ (fun t ⟨v, ht⟩ => by subst ht; exact ⟨rfl, rfl⟩) (fun t => ⟨rfl, rfl⟩)
  rw [if_neg h3]
  by_cases h4 : o.kind = 4
  · rw [if_pos h4, h4]
    refine (did_barrier 65536 w b s h on o.A o.B _ aT aF _ capT _ capF o.dn (DidTo b s (if s.ab.off = true then (s.ab, 12) else s.ab.ends s.ab.settled)) (fun W hW hd => ?_)).mono ?_
    · have eo : s.ab.off = s.off := rfl
      rw [eo]
      cases hoff : s.off with
      | true => exact (barrier_off 65536 W b s hd hoff).mono (fun e w' ⟨x1, x2, x3⟩ => didR (DidTo.same x1 x2 x3))
      | false => exact (barrier_on 65536 W b s hd (by decide) hoff).mono (fun e w' hw => didR (ends_of hw _ (fun t ht => by obtain ⟨m, D, rfl⟩ := ht; exact ⟨rfl, rfl⟩) (fun t => ⟨rfl, rfl⟩)))
    · rintro e w' ⟨w1, e1, hb1, _, hR, rfl⟩
      exact hR.after hb1
  rw [if_neg h4]
  by_cases h5 : o.kind = 5
  · rw [if_pos h5, h5]
    refine (did_arm 65536 w b s h on o.A o.B _ aT aF _ capT _ capF o.dn (DidTo b s (if s.ab.off = true then (s.ab, 12) else if armOk o.A o.B = true then ({ s.ab with ch := o.A, how := o.B, done := o.dn }, 0) else (s.ab, 1))) (fun W hW hd => ?_)).mono ?_
    · have eo : s.ab.off = s.off := rfl
      rw [eo]
      cases hoff : s.off with
      | true => exact (arm_off 65536 W b s hd hoff _ _ _).mono (fun e w' ⟨x1, x2, x3⟩ => didR (DidTo.same x1 x2 x3))
      | false =>
        cases ha : armOk o.A o.B with
        | false => exact (arm_bad 65536 W b s hd hoff _ _ _ ha).mono (fun e w' ⟨x1, x2, x3⟩ => didR (DidTo.same x1 x2 x3))
        | true =>
          have ha' : 0 ≤ o.A ∧ (o.B = 0 ∨ o.B = 1) := by simpa [armOk] using ha
          exact (arm_on 65536 W b s hd hoff _ _ _ ha'.1 ha'.2).mono (fun e w' ⟨x1, x2, x3⟩ => didR ⟨_, _, x2, rfl, rfl, x1, x3.mono (fun _ _ x => .inl x), fun _ hk => .inl (own_eq rfl rfl rfl _ hk)⟩)
    · rintro e w' ⟨w1, e1, hb1, _, hR, rfl⟩
      exact hR.after hb1
  rw [if_neg h5]
  by_cases h7 : o.kind = 7
  · rw [if_pos h7, h7]
    refine (did_restart 65536 w b s h on o.A o.B _ aT aF _ capT _ capF o.dn (fun W _ w' => DidTo b s (s.ab.restart o.fates, 0) W (.returned (.int .i64 0)) w') (fun W hW hd => ?_)).mono ?_
    · refine (restart_any 65536 W b s hd (by decide) aF o.fates capF (fun i f hf => ?_) hml).mono ?_
      · obtain ⟨g, off, e1, e2, e3⟩ := hF i f hf
        exact ⟨g, off, e1, by have := hW.size; omega, fun ho => by have := hown g ho; omega, by rw [hW.cell (p := ⟨g, off + i, none⟩) (by simp only; omega)]; exact e3⟩
      · rintro e w' ⟨m, D, rfl, hm, hd', hk'⟩
        refine ⟨⟨_, _, hd', ?_, rfl, rfl, hk'.mono (fun i _ x => x.elim (fun e => .inl e) (fun e => .inr (.inl e))), fun i hi => ?_⟩, rfl⟩
        · have e1 : metTo s (intKeys s.DW) o.fates (intKeys s.DW).length = s.ab.met s.ab.keys o.fates s.ab.keys.length := by rw [keys_ab hd, met_ab]
          show (⟨s.size, s.blocks, false, 0, 0, false, metTo s (intKeys s.DW) o.fates (intKeys s.DW).length, fun _ => []⟩ : Ab) = s.ab.restart o.fates
          rw [e1]
          rfl
        · rcases hi with e | e | e | ⟨n, v, hv, _⟩
          · exact .inl (.inl e)
          · exact .inl (.inr (.inl e))
          · exact .inr (by rw [show i = m from e]; exact hm)
          · have := valAt_has hv
            simp [St.restart, Maps.has] at this
    · rintro e w' ⟨w1, e1, hb1, _, hR, rfl⟩
      exact hR.after hb1
  rw [if_neg h7]
  by_cases h8 : o.kind = 8
  · rw [if_pos h8, h8]
    refine (did_flip 65536 w b s h on o.A o.B _ aT aF _ capT _ capF o.dn (DidTo b s (if s.ab.off = true then (s.ab, 12) else if inRange o.A s.ab.blocks = false ∨ inRange o.B s.ab.size = false then (s.ab, 11) else s.ab.flipped o.A o.B.toNat o.v)) (fun W hW hd => ?_)).mono ?_
    · have eo : s.ab.off = s.off := rfl
      rw [eo]
      cases hoff : s.off with
      | true => exact (flip_off 65536 W b s hd hoff _ _ _).mono (fun e w' ⟨x1, x2, x3⟩ => didR (DidTo.same x1 x2 x3))
      | false =>
        simp only [Bool.false_eq_true, if_false]
        by_cases hr : inRange o.A s.ab.blocks = false ∨ inRange o.B s.ab.size = false
        · rw [if_pos hr]
          exact (flip_range 65536 W b s hd hoff _ _ _ hr).mono (fun e w' ⟨x1, x2, x3⟩ => didR (DidTo.same x1 x2 x3))
        · rw [if_neg hr]
          have hr1 : inRange o.A s.blocks = true := by
            cases hh : inRange o.A s.blocks with
            | true => rfl
            | false => exact absurd (.inl hh) hr
          have hr2 : inRange o.B s.size = true := by
            cases hh : inRange o.B s.size with
            | true => rfl
            | false => exact absurd (.inr hh) hr
          have hB : 0 ≤ o.B ∧ o.B < (s.size : Int) := by simpa [inRange] using hr2
          unfold Ab.flipped
          have es : s.ab.shows o.A = shows s o.A := rfl
          rw [es]
          cases hsh : shows s o.A with
          | none => exact (flip_bad 65536 W b s hd hoff _ _ _ hA hr1 hr2 hsh).mono (fun e w' ⟨x1, x2, x3⟩ => didR (DidTo.same x1 x2 x3))
          | some bs =>
            simp only
            have eB : o.B = (o.B.toNat : Int) := by omega
            rw [eB]
            simp only [Int.toNat_natCast]
            have ew : s.ab.waits = s.waits := rfl
            by_cases hw : s.waits o.A = []
            · rw [ew, if_pos hw]
              exact (flip_last 65536 W b s hd (by decide) hoff _ _ _ hA hr1 (by omega) bs hsh hw).mono (fun e w' ⟨v, x1, x2, x3⟩ => didR ⟨_, _, x2, rfl, rfl, x1, x3, fun _ hk => .inl (own_eq rfl rfl rfl _ hk)⟩)
            · rw [ew, if_neg hw]
              exact (flip_wait 65536 W b s hd hoff _ _ _ hA hr1 (by omega) bs hsh hw (hml _)).mono (fun e w' ⟨x1, x2, x3⟩ => didR ⟨_, _, x2, rfl, rfl, x1, x3, fun _ hk => .inl (own_eq rfl rfl rfl _ hk)⟩)
    · rintro e w' ⟨w1, e1, hb1, _, hR, rfl⟩
      exact hR.after hb1
  rw [if_neg h8]
  refine (did_none w b o.kind on o.A o.B _ aT aF _ capT _ capF o.dn h3 h4 h5 h7 h8).mono ?_
  rintro e w' ⟨rfl, hb⟩
  exact ⟨s, 65536, h.below hb, rfl, rfl, rfl, Kept.of_below hb, fun _ hk => .inl hk⟩
end Go.Proofs.Ytphnajphgiinfaa
