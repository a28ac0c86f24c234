/- The law's 'upTo': a change was done, or not, as the copy has done it. -/
import Derived.Test.YtphnajphgiinfaaArmed
namespace Go.Proofs.Ytphnajphgiinfaa
open Go.RowKit Go.Maps Go.MuLone Go.Sort

/-- Two devices beside one another. -/
structure Two (w0 w : World) (c d : Nat) (sc sd : St) (x y : Ab) (k : Nat) : Prop where
  mc : Mine w0.heap.size w c sc x k
  md : Mine w0.heap.size w d sd y k
  cd : Apart c sc d sd
  old : Below w0.heap.size w0 w
theorem Two.onC {w0 w w' : World} {c d : Nat} {sc sd t : St} {x y z : Ab} {k : Nat} {S : Nat → Prop} (h : Two w0 w c d sc sd x y k) (hm : Mine w0.heap.size w' c t z k) (hS : ∀ i, S i → Own c sc i) (hk : Kept S w w') (ho : ∀ i, Own c t i → Own c sc i ∨ w.heap.size ≤ i) : Two w0 w' c d t sd z y k :=
  ⟨hm, h.md.kept h.mc.dev hS hk h.cd.symm, h.cd.next h.md.dev ho, h.old.trans (hk.below (fun i hi => h.mc.own i (hS i hi)) h.old.size)⟩
theorem Two.swap {w0 w : World} {c d : Nat} {sc sd : St} {x y : Ab} {k : Nat} (h : Two w0 w c d sc sd x y k) : Two w0 w d c sd sc y x k := ⟨h.md, h.mc, h.cd.symm, h.old⟩
theorem Two.onD {w0 w w' : World} {c d : Nat} {sc sd t : St} {x y z : Ab} {k : Nat} {S : Nat → Prop} (h : Two w0 w c d sc sd x y k) (hm : Mine w0.heap.size w' d t z k) (hS : ∀ i, S i → Own d sd i) (hk : Kept S w w') (ho : ∀ i, Own d t i → Own d sd i ∨ w.heap.size ≤ i) : Two w0 w' c d sc t x z k := (h.swap.onC hm hS hk ho).swap
theorem Two.below {w0 w w' : World} {c d : Nat} {sc sd : St} {x y : Ab} {k : Nat} (h : Two w0 w c d sc sd x y k) (hb : Below w.heap.size w w') : Two w0 w' c d sc sd x y k := ⟨h.mc.below hb, h.md.below hb, h.cd, h.old.trans (hb.mono h.old.size)⟩
theorem Two.more {w0 w : World} {c d : Nat} {sc sd : St} {x y : Ab} {k k' : Nat} (h : Two w0 w c d sc sd x y k) (hk : k ≤ k') : Two w0 w c d sc sd x y k' := ⟨h.mc.more hk, h.md.more hk, h.cd, h.old⟩

theorem keys_waits {a b : Ab} (h : a.waits = b.waits) : a.keys = b.keys := by unfold Ab.keys; rw [h]
theorem Mine.keys {N k : Nat} {w : World} {b : Nat} {s : St} {a : Ab} (h : Mine N w b s a k) (n : Int) : n ∈ a.keys ↔ a.waits n ≠ [] := by
  have h1 := keys_are h.dev n
  rw [keys_ab h.dev, h.ab] at h1
  have h2 : s.waits = a.waits := congrArg Ab.waits h.ab
  rw [h2] at h1
  exact h1
theorem Mine.keys_len {N k : Nat} {w : World} {b : Nat} {s : St} {a : Ab} (h : Mine N w b s a k) : a.keys.length ≤ 65536 := by
  have := (keys_facts h.dev.mapW).2.2.1
  rw [keys_ab h.dev, h.ab] at this
  exact this
theorem keys_none {a : Ab} (h : a.waits = fun _ => []) : a.keys = [] := by
  cases e : a.keys with
  | nil => rfl
  | cons x r =>
    have := keys_mem a x (by rw [e]; exact List.mem_cons_self ..)
    rw [h] at this
    exact absurd rfl this

theorem pend_mine {N k : Nat} {w : World} {b : Nat} {s : St} {a : Ab} (h : Mine N w b s a k) :
    Calls Try.prog 14 #[.pointer (some ⟨b, 0, none⟩)] w fun e w' => ∃ ao cap, e = .returned (.slice ao a.keys.length cap) ∧ w'.ownsRow w.heap.size 43 2 (.slice ao a.keys.length cap) a.keys.length (a.keys.flatMap fun n => [Value.int .i64 n, .int .i64 ((a.waits n).length : Nat)]) ∧ Mine N w' b s a k ∧ Kept (fun k => k = b) w w' := by
  refine (pending_any 65536 w b s h.dev (by decide)).mono ?_
  rintro _ w' ⟨p, rfl, hp, hd, hk⟩
  have hw : s.waits = a.waits := congrArg Ab.waits h.ab
  rw [keys_ab h.dev, h.ab] at hp
  unfold pendCells at hp
  rw [hw] at hp
  obtain ⟨ao, cap, rfl, _⟩ := own_shape hp
  exact ⟨ao, cap, rfl, hp, ⟨hd, h.ab, h.good, h.own⟩, hk⟩

theorem box_cell {w w' : World} {b i : Nat} {cur : Array Value} {t : TypeId} (hb : w'.heap[b]? = w.heap[b]?) (h : w.heap[b]? = some (.cells cur t (0, 0))) : w'.cell? ⟨b, i, none⟩ = cur[i]? := hdr_cell (hb.trans h) i

set_option maxHeartbeats 2000000 in
set_option maxRecDepth 100000 in
theorem upTo_barrier (w0 w : World) (c d : Nat) (sc sd : St) (R D : Ab) (k : Nat) (h : Two w0 w c d sc sd R D k) (dn : Bool) (was : Nat) (hR : R.waits = fun _ => []) (hD : if dn then D.waits = fun _ => [] else D.keys.length = was)
    (on A B v : Int) (aT aF : Option Addr) (lenT capT lenF capF : Nat) (od : Bool) :
    Calls Try.prog 22 #[.pointer (some ⟨d, 0, none⟩), .pointer (some ⟨c, 0, none⟩), .agg #[.int .i64 4, .int .i64 on, .int .i64 A, .int .i64 B, .int .u8 v, .slice aT lenT capT, .slice aF lenF capF, .bool od], .bool dn, .int .i64 was] w fun e w' => e = .returned (.bool true) ∧ Below w0.heap.size w0 w' := by
  have hba : Below w.heap.size w (w.alloc (.cells #[.int .i64 4, .int .i64 on, .int .i64 A, .int .i64 B, .int .u8 v, .slice aT lenT capT, .slice aF lenF capF, .bool od] 53)) := (Below.refl _ _).alloc (Nat.le_refl _) _
  have hrow : (w.alloc (.cells #[.int .i64 4, .int .i64 on, .int .i64 A, .int .i64 B, .int .u8 v, .slice aT lenT capT, .slice aF lenF capF, .bool od] 53)).heap[w.heap.size]? = some (.cells #[.int .i64 4, .int .i64 on, .int .i64 A, .int .i64 B, .int .u8 v, .slice aT lenT capT, .slice aF lenF capF, .bool od] 53 (0, 0)) := (MapKept.heap_alloc w _).1
  have H1 : Hid _ := h.below hba
  have HROW : Hid _ := hrow
  have hcl : c < w.heap.size := h.mc.dev.own_lt (.inl rfl)
  have hdl : d < w.heap.size := h.md.dev.own_lt (.inl rfl)
  have hsz : (w.alloc (.cells #[.int .i64 4, .int .i64 on, .int .i64 A, .int .i64 B, .int .u8 v, .slice aT lenT capT, .slice aF lenF capF, .bool od] 53)).heap.size = w.heap.size + 1 := by simp
  have HSZ : Hid _ := hsz
  have HR0 : Hid (R.keys.length = 0) := by show _ = _; rw [keys_none hR]; rfl
  have HDL : Hid (D.keys.length ≤ 65536) := h.md.keys_len
  have HD : Hid (if dn then D.keys.length = 0 else D.keys.length = was) := by
    cases dn with
    | true => simp only [if_true] at hD ⊢; show _ = _; rw [keys_none hD]; rfl
    | false => exact hD
  clear hba hrow h hsz hR hD
  go_enter Try.func22, Try.ntmps22
  go_wp2_with fail
  refine (pend_mine H1.out.md).mono ?_
  rintro _ w1 ⟨ap, cp, rfl, hp, hm1, hk1⟩
  have H2 : Hid (Two w0 w1 c d sc sd R D k) := H1.out.onD hm1 (fun i hi => .inl hi) hk1 (fun i hi => .inl hi)
  have HK1 : Hid (w1.heap[w.heap.size]? = _) := (hk1.block w.heap.size (by rw [HSZ.out]; omega) (by omega)).trans HROW.out
  have HS1 : Hid (w.heap.size + 1 ≤ w1.heap.size) := by show _ ≤ _; rw [← HSZ.out]; exact hk1.size
  clear hp hm1 hk1
  go_wp2_with fail
  refine (pend_mine H2.out.mc).mono ?_
  rintro _ w2 ⟨aq, cq, rfl, hq, hm2, hk2⟩
  have H3 : Hid (Two w0 w2 c d sc sd R D k) := H2.out.onC hm2 (fun i hi => .inl hi) hk2 (fun i hi => .inl hi)
  have c0 : w2.cell? ⟨w.heap.size, 0, none⟩ = some (.int .i64 4) := box_cell (hk2.block w.heap.size (by have := HS1.out; omega) (by omega)) HK1.out
  clear hq hm2 hk2
  rw [HR0.out]
  obtain ⟨L, hL⟩ : ∃ L, L = D.keys.length := ⟨_, rfl⟩
  rw [← hL] at HD HDL ⊢
  clear hL
  have hl := HDL.out
  cases dn with
  | true =>
    have e : L = 0 := HD.out
    subst e
    go_wp2
    go_ret
    exact ⟨rfl, H3.out.old⟩
  | false =>
    have e : L = was := HD.out
    subst e
    go_wp2
    go_ret
    exact ⟨rfl, H3.out.old⟩

set_option maxHeartbeats 2000000 in
set_option maxRecDepth 100000 in
theorem upTo_write (w0 w : World) (c d : Nat) (sc sd : St) (R D : Ab) (k : Nat) (h : Two w0 w c d sc sd R D k) (hk40 : k ≤ 1099511627776) (dn : Bool) (was : Int) (on A B v : Int) (hA : (Lit.int .i64 A).wf = true)
    (hone : (D.waits A).length = if dn then (R.waits A).length else (R.waits A).length - 1) (hpos : 0 < (R.waits A).length) (hoff : R.off = false) (hin : inRange A R.blocks = true)
    (hsh : D.off = false → dn = true → inRange A D.blocks = true ∧ D.shows A = R.shows A ∧ (R.shows A).isSome = true)
    (aT aF : Option Addr) (lenT capT lenF capF : Nat) (od : Bool) :
    Calls Try.prog 22 #[.pointer (some ⟨d, 0, none⟩), .pointer (some ⟨c, 0, none⟩), .agg #[.int .i64 3, .int .i64 on, .int .i64 A, .int .i64 B, .int .u8 v, .slice aT lenT capT, .slice aF lenF capF, .bool od], .bool dn, .int .i64 was] w fun e w' => e = .returned (.bool true) ∧ Below w0.heap.size w0 w' := by
  have hba : Below w.heap.size w (w.alloc (.cells #[.int .i64 3, .int .i64 on, .int .i64 A, .int .i64 B, .int .u8 v, .slice aT lenT capT, .slice aF lenF capF, .bool od] 53)) := (Below.refl _ _).alloc (Nat.le_refl _) _
  have hrow : (w.alloc (.cells #[.int .i64 3, .int .i64 on, .int .i64 A, .int .i64 B, .int .u8 v, .slice aT lenT capT, .slice aF lenF capF, .bool od] 53)).heap[w.heap.size]? = some (.cells #[.int .i64 3, .int .i64 on, .int .i64 A, .int .i64 B, .int .u8 v, .slice aT lenT capT, .slice aF lenF capF, .bool od] 53 (0, 0)) := (MapKept.heap_alloc w _).1
  have H1 : Hid _ := h.below hba
  have HROW : Hid _ := hrow
  have hcl : c < w.heap.size := h.mc.dev.own_lt (.inl rfl)
  have hdl : d < w.heap.size := h.md.dev.own_lt (.inl rfl)
  have hsz : (w.alloc (.cells #[.int .i64 3, .int .i64 on, .int .i64 A, .int .i64 B, .int .u8 v, .slice aT lenT capT, .slice aF lenF capF, .bool od] 53)).heap.size = w.heap.size + 1 := by simp
  have HSZ : Hid _ := hsz
  have HDL : Hid (D.keys.length ≤ 65536) := h.md.keys_len
  have HRL : Hid (R.keys.length ≤ 65536) := h.mc.keys_len
  have HDK : Hid (A ∉ D.keys → (D.waits A).length = 0) := fun hm => by
    have := h.md.keys A
    by_cases e : D.waits A = []
    · rw [e]; rfl
    · exact absurd (this.2 e) hm
  have HRK : Hid (A ∉ R.keys → (R.waits A).length = 0) := fun hm => by
    have := h.mc.keys A
    by_cases e : R.waits A = []
    · rw [e]; rfl
    · exact absurd (this.2 e) hm
  have HWL : Hid ((R.waits A).length ≤ 1099511627776) := Nat.le_trans (h.mc.good.2.2 A) hk40
  have HONE : Hid _ := hone
  have HPOS : Hid _ := hpos
  have HOFF : Hid (R.off = false) := hoff
  have HIN : Hid (inRange A R.blocks = true) := hin
  have HSH : Hid _ := hsh
  have HA : Hid ((Lit.int .i64 A).wf = true) := hA
  clear hba hrow h hsz hone hpos hoff hin hsh hA hk40
  go_enter Try.func22, Try.ntmps22
  go_wp2_with fail
  refine (pend_mine H1.out.md).mono ?_
  rintro _ w1 ⟨ap, cp, rfl, hp, hm1, hk1⟩
  have H2 : Hid (Two w0 w1 c d sc sd R D k) := H1.out.onD hm1 (fun i hi => .inl hi) hk1 (fun i hi => .inl hi)
  have HK1 : Hid (w1.heap[w.heap.size]? = _) := (hk1.block w.heap.size (by rw [HSZ.out]; omega) (by omega)).trans HROW.out
  have HS1 : Hid (w.heap.size + 1 ≤ w1.heap.size) := by show _ ≤ _; rw [← HSZ.out]; exact hk1.size
  have HP : Hid (w1.ownsRow _ 43 2 (.slice ap D.keys.length cp) D.keys.length _) := hp
  clear hp hm1 hk1
  go_wp2_with fail
  refine (pend_mine H2.out.mc).mono ?_
  rintro _ w2 ⟨aq, cq, rfl, hq, hm2, hk2⟩
  have H3 : Hid (Two w0 w2 c d sc sd R D k) := H2.out.onC hm2 (fun i hi => .inl hi) hk2 (fun i hi => .inl hi)
  have HK2 : Hid (w2.heap[w.heap.size]? = _) := (hk2.block w.heap.size (by have := HS1.out; omega) (by omega)).trans HK1.out
  have HS2 : Hid (w.heap.size + 1 ≤ w2.heap.size) := Nat.le_trans HS1.out hk2.size
  have HP2 : Hid (w2.ownsRow _ 43 2 (.slice ap D.keys.length cp) D.keys.length _) := row_kept HP.out hk2 (fun g hg e => by
    have h1 := row_fresh HP.out hg
    rw [HSZ.out] at h1
    omega)
  have HQ2 : Hid (w2.ownsRow _ 43 2 (.slice aq R.keys.length cq) R.keys.length _) := hq
  have c0 : w2.cell? ⟨w.heap.size, 0, none⟩ = some (.int .i64 3) := hdr_cell HK2.out 0
  have c2 : w2.cell? ⟨w.heap.size, 2, none⟩ = some (.int .i64 A) := hdr_cell HK2.out 2
  clear hq hm2 hk2
  go_wp2_with fail
  refine (waits_of w2 _ _ (fun n => (D.waits n).length) D.keys HP2.out (by have := HDL.out; omega) A HDK.out).mono ?_
  rintro _ _ ⟨rfl, rfl⟩
  go_wp2_with fail
  rename_i wz
  refine (waits_of _ _ _ (fun n => (R.waits n).length) R.keys HQ2.out (by have := HRL.out; omega) A HRK.out).mono ?_
  rintro _ _ ⟨rfl, rfl⟩
  simp only
  obtain ⟨one, hone⟩ : ∃ one, one = (D.waits A).length := ⟨_, rfl⟩
  obtain ⟨two, htwo⟩ : ∃ two, two = (R.waits A).length := ⟨_, rfl⟩
  rw [← hone, ← htwo]
  have ho := HONE.out
  rw [← hone, ← htwo] at ho
  have hp := HPOS.out
  rw [← htwo] at hp
  have hw := HWL.out
  rw [← htwo] at hw
  clear hone htwo
  cases dn with
  | false =>
    have e : (one : Int) = (two : Int) - 1 := by simp at ho; omega
    rw [e]
    clear ho
    go_wp2_with fail
    refine (off_any 65536 _ d sd H3.out.md.dev).mono ?_
    rintro _ w5 ⟨rfl, hd5, hk5⟩
    have HB5 : Hid (Below w0.heap.size w0 w5) := H3.out.old.trans (hk5.below (fun i hi => H3.out.md.own i (.inl hi)) H3.out.old.size)
    clear hd5 hk5
    cases sd.off with
    | true =>
      go_wp2
      go_ret
      exact ⟨rfl, HB5.out⟩
    | false =>
      go_wp2
      go_ret
      exact ⟨rfl, HB5.out⟩
  | true =>
    have e : one = two := by simpa using ho
    subst e
    clear ho
    go_wp2_with fail
    refine (off_any 65536 _ d sd H3.out.md.dev).mono ?_
    rintro _ w5 ⟨rfl, hd5, hk5⟩
    have H5 : Hid (Two w0 w5 c d sc sd R D k) := H3.out.onD ⟨hd5, H3.out.md.ab, H3.out.md.good, H3.out.md.own⟩ (fun i hi => .inl hi) hk5 (fun i hi => .inl hi)
    have c2' : w5.cell? ⟨w.heap.size, 2, none⟩ = some (.int .i64 A) := by
      have := (hk5.block w.heap.size (by have := HS2.out; omega) (by omega)).trans HK2.out
      exact hdr_cell this 2
    have HK5 : Hid (w5.heap[w.heap.size]? = _) := (hk5.block w.heap.size (by have := HS2.out; omega) (by omega)).trans HK2.out
    have HS5 : Hid (w.heap.size + 1 ≤ w5.heap.size) := Nat.le_trans HS2.out hk5.size
    have hoffD : sd.off = D.off := congrArg Ab.off H3.out.md.ab
    clear hd5 hk5
    rw [hoffD]
    clear hoffD
    cases hof : D.off with
    | true =>
      go_wp2
      go_ret
      exact ⟨rfl, H5.out.old⟩
    | false =>
      obtain ⟨s1, s2, s3⟩ := HSH.out hof (by trivial)
      have HS123 : Hid (inRange A D.blocks = true ∧ D.shows A = R.shows A ∧ (R.shows A).isSome = true) := ⟨s1, s2, s3⟩
      clear s1 s2 s3
      have HOFD : Hid (D.off = false) := hof
      clear hof
      go_wp2_with fail
      refine (shown_mine H5.out.md HOFD.out A HA.out HS123.out.1).mono ?_
      rintro _ w6 ⟨t6, rfl, hm6, hk6, ho6⟩
      have H6 : Hid (Two w0 w6 c d sc t6 R D k) := H5.out.onD hm6 (fun i hi => .inl hi) hk6 (fun i hi => .inl (ho6 i hi))
      have d2 : w6.cell? ⟨w.heap.size, 2, none⟩ = some (.int .i64 A) := by
        have := (hk6.block w.heap.size (by have := HS5.out; omega) (by omega)).trans HK5.out
        exact hdr_cell this 2
      clear hm6 hk6 ho6
      have es : D.seen A = R.seen A := by unfold Ab.seen; rw [HS123.out.2.1]
      rw [es, HS123.out.2.1, HS123.out.2.2]
      clear es
      go_wp2_with fail
      refine (shown_mine H6.out.mc HOFF.out A HA.out HIN.out).mono ?_
      rintro _ w7 ⟨t7, rfl, hm7, hk7, ho7⟩
      have HB7 : Hid (Below w0.heap.size w0 w7) := H6.out.old.trans (hk7.below (fun i hi => H6.out.mc.own i (.inl hi)) H6.out.old.size)
      clear hm7 hk7 ho7
      rw [HS123.out.2.2]
      go_wp2
      go_ret
      exact ⟨rfl, HB7.out⟩
end Go.Proofs.Ytphnajphgiinfaa
