/- SpacePlays's walk. -/
import Derived.Test.YtlokplnapaghhaaDoorPlaysBad
import Derived.Test.YtlokplnapaghhaaDoorOnceW
namespace Go.Proofs.YtlokplnapaghhaaDoor
open Go.RowKit

theorem built_spaces (a b : Option Addr) : Tryd.prog.built 32 [(0, .pointer a), (1, .pointer b)] = some #[.pointer a, .pointer b] := by kernel_rfl
theorem built_refs (a b : Option Addr) : Tryd.prog.built 33 [(0, .pointer a), (1, .pointer b)] = some #[.pointer a, .pointer b] := by kernel_rfl
theorem built_world (a b c d : Option Addr) : Tryd.prog.built 35 [(0, .agg #[.pointer a, .pointer b]), (1, .agg #[.pointer c, .pointer d])] = some #[.pointer a, .pointer b, .pointer c, .pointer d] := by kernel_rfl
theorem wpList_built2 {P : Program} {ops : Array Oper} {rest : List Oper} {o : Oper} {a : Act} {w : World} {Q : Exit → Act → World → Prop} (hg : o.guard = none) (t : TypeId) (i j : Nat) (x y : Operand) (ho : o.op = .build t #[(i, x), (j, y)])
    (v u : Value) (hx : a.eval x = v) (hy : a.eval y = u) (cells : Array Value) (hb : P.built t [(i, v), (j, u)] = some cells)
    (h : wpList P ops Q rest (a.put o.dst (.agg cells)) w) : wpList P ops Q (o :: rest) a w := by
  have hp : ((#[(i, x), (j, y)] : Array (Nat × Operand)).map fun (i, x) => (i, a.eval x)).toList = [(i, v), (j, u)] := by simp [hx, hy]
  refine wpList_build hg t #[(i, x), (j, y)] ho (by rw [hp, hb]; rfl) ?_
  rw [hp, hb]
  exact h
theorem WAt.new {base : Nat} {w : World} {a b x y gx gy cx cy : Nat} {s t : Sp} (ha : SpaceAt w a s) (hb : SpaceAt w b t) (hx : RefAt w x gx cx s) (hy : RefAt w y gy cy t) (h1 : a ≠ b) (h2 : x ≠ y) (h3 : gx ≠ gy) (l1 : base ≤ a) (l2 : base ≤ b) (l3 : base ≤ x) (l4 : base ≤ y) (l5 : base ≤ gx) (l6 : base ≤ gy) (hbase : base ≤ w.heap.size) :
    WSome base (w.alloc (.cells #[.pointer (some ⟨a, 0, none⟩), .pointer (some ⟨b, 0, none⟩), .pointer (some ⟨x, 0, none⟩), .pointer (some ⟨y, 0, none⟩)] 35)) w.heap.size := by
  have hk : Below w.heap.size w (w.alloc (.cells #[.pointer (some ⟨a, 0, none⟩), .pointer (some ⟨b, 0, none⟩), .pointer (some ⟨x, 0, none⟩), .pointer (some ⟨y, 0, none⟩)] 35)) := (Below.refl _ _).alloc (Nat.le_refl _) _
  refine ⟨fun k => if k then b else a, fun k => if k then y else x, fun k => if k then gy else gx, fun k => if k then cy else cx, fun k => if k then t else s, ?_⟩
  refine ⟨heap_alloc_last _ _, fun k => ?_, fun k => ?_, by simpa using h1, by simpa using h2, by simpa using h3, hbase, fun k => ?_, fun k => ?_, fun k => ?_⟩
  · cases k
    · exact ha.below hk
    · exact hb.below hk
  · cases k
    · exact hx.below hk
    · exact hy.below hk
  · cases k <;> assumption
  · cases k <;> assumption
  · cases k <;> assumption
set_option maxHeartbeats 4000000 in
set_option maxRecDepth 100000 in
theorem plays_ok (w : World) (ht : Tab w) (n1 m1 n2 m2 : Nat) (p1 : 16 ≤ n1) (p2 : n1 ≤ 65536) (p3 : m1 ≤ n1) (q1 : 16 ≤ n2) (q2 : n2 ≤ 65536) (q3 : m2 ≤ n2) (v : Value) (L : List OpV) (hL : OpsIn w v L) :
    Calls Tryd.prog 4 #[.int .i64 n1, .int .i64 m1, .int .i64 n2, .int .i64 m2, v] w fun e w' => e = .returned (.bool true) ∧ Below w.heap.size w w' := by
  have HA := alive_any w ht
  have HT : Hid (Tab w) := ht
  obtain ⟨⟨a, c, rfl, hl⟩, hs⟩ := hL
  have HL : Hid _ := hl
  have HN1 := fun W => new_ok W n1 m1 p1 p2 p3
  have HN2 := fun W => new_ok W n2 m2 q1 q2 q3
  have HR1 := fun W => rnew_ok W n1 m1 p1 p2 p3
  have HR2 := fun W => rnew_ok W n2 m2 q1 q2 q3
  generalize (Sp.empty n1).use 0 m1 = s1 at HN1 HR1
  generalize (Sp.empty n2).use 0 m2 = s2 at HN2 HR2
  clear ht hl p1 p2 p3 q1 q2 q3
  go_enter Tryd.func4, Tryd.ntmps4
  go_wp2_with (first
      | (go_at_call 8; refine HA.mono ?_; rintro e w1 ⟨rfl, hb⟩; have HB1 : Hid (Below w.heap.size w w1) := hb; clear hb)
      | (go_at_call 9; refine (HN1 w1).mono ?_; rintro e w2 ⟨rfl, hs2, hb2⟩
         have HS2 : Hid (SpaceAt w2 w1.heap.size s1) := hs2
         have HB2 : Hid (Below w.heap.size w w2) := HB1.out.trans (hb2.mono HB1.out.size)
         clear hs2 hb2 HN1)
      | (go_at_call 9; refine (HN2 w2).mono ?_; rintro e w3 ⟨rfl, hs3, hb3⟩
         have HS3 : Hid (SpaceAt w3 w1.heap.size s1 ∧ SpaceAt w3 w2.heap.size s2 ∧ w1.heap.size < w2.heap.size) := ⟨HS2.out.below hb3, hs3, HS2.out.lt⟩
         have HB3 : Hid (Below w.heap.size w w3) := HB2.out.trans (hb3.mono HB2.out.size)
         clear hs3 hb3 HN2)
      | (go_at_call 10; refine (HR1 w3).mono ?_; rintro e w4 ⟨x, rfl, hr4, hb4⟩
         have HR4 : Hid (NewRef w3 w4 x s1) := hr4
         have HB34 : Hid (Below w3.heap.size w3 w4) := hb4
         have HB4 : Hid (Below w.heap.size w w4) := HB3.out.trans (hb4.mono HB3.out.size)
         clear hr4 hb4 HR1)
      | (go_at_call 10; refine (HR2 w4).mono ?_; rintro e w5 ⟨y, rfl, hr5, hb5⟩
         have HW5 : Hid (WSome w.heap.size (w5.alloc (.cells #[.pointer (some ⟨w1.heap.size, 0, none⟩), .pointer (some ⟨w2.heap.size, 0, none⟩), .pointer (some ⟨x, 0, none⟩), .pointer (some ⟨y, 0, none⟩)] 35)) w5.heap.size) := by
           obtain ⟨⟨gx, cx, hrx, lgx⟩, lx⟩ := HR4.out
           obtain ⟨⟨gy, cy, hry, lgy⟩, ly⟩ := hr5
           obtain ⟨u1, u2, u3⟩ := HS3.out
           have z1 := HB1.out.size
           have z2 := HB2.out.size
           have z3 := HB3.out.size
           have z4 := HB4.out.size
           have z5 := hb5.size
           have z6 := hrx.lt
           have z7 := hrx.ltg
           exact WAt.new ((u1.below HB34.out).below hb5) ((u2.below HB34.out).below hb5) (hrx.below hb5) hry (by omega) (by omega) (by omega) (by omega) (by omega) (by omega) (by omega) (by omega) (by omega) (by omega)
         have HB5 : Hid (Below w.heap.size w w5) := HB4.out.trans (hb5.mono HB4.out.size)
         clear hr5 hb5 HR2)
      | (refine wpList_built2 rfl 32 0 1 _ _ rfl _ _ rfl rfl _ (built_spaces _ _) ?_)
      | (refine wpList_built2 rfl 33 0 1 _ _ rfl _ _ rfl rfl _ (built_refs _ _) ?_)
      | (refine wpList_built2 rfl 35 0 1 _ _ rfl _ _ rfl rfl _ (built_world _ _ _ _) ?_))
  go_loopw [21] (fun i wr => ∃ k : Nat, k ≤ L.length ∧ i = .int .i64 k ∧ WSome w.heap.size wr w5.heap.size ∧ Below w.heap.size w wr) (fun i _ => L.length - (intOf i).toNat)
  case atStart => exact ⟨0, Nat.zero_le _, rfl, HW5.out, HB5.out.alloc HB5.out.size _⟩
  case round =>
    obtain ⟨k, hk, rfl, hw, hbe⟩ := hrel
    have HW : Hid _ := hw
    have HBE : Hid (Below w.heap.size w wr) := hbe
    clear hw hbe
    by_cases hlt : k < L.length
    · have hkz : (k : Int) < (L.length : Int) := by omega
      obtain ⟨o, ho⟩ : ∃ o, L[k]? = some o := ⟨L[k], List.getElem?_eq_getElem hlt⟩
      obtain ⟨g, off, rfl, hg, hop⟩ := HL.out k o ho
      obtain ⟨c0, c1, c2, c3, hby, hle, hni, hsh⟩ := hop.below hg HBE.out
      have HP := play_any w.heap.size wr w5.heap.size HW.out (HT.out.below HBE.out) HBE.out.size o.other o.kind o.n _ o.a o.c o.bs rfl hby hle hni hsh
      clear ho hop hby hle hni hsh hg
      go_wp2_with (go_at_call 11; refine HP.mono ?_; rintro e w6 ⟨rfl, hw6, hb6⟩; have HW6 : Hid _ := hw6; have HB6 : Hid _ := HBE.out.trans hb6; clear hw6 hb6)
      exact ⟨⟨k + 1, by omega, by go_num, HW6.out, HB6.out⟩, by simp [intOf]; omega⟩
    · obtain rfl : k = L.length := by omega
      obtain ⟨wo, rfl⟩ : ∃ wo, wo = wr := ⟨_, rfl⟩
      obtain ⟨A, B, G, C, S, hW⟩ := HW.out.is
      have HTR : Hid (∀ W, Below wo.heap.size wo W → Tab W) := fun W h => (HT.out.below HBE.out).below h
      go_wp2
      go_loopw [22] (fun i wx => (i = .int .i64 0 ∨ i = .int .i64 1 ∨ i = .int .i64 2) ∧ Below wo.heap.size wo wx) (fun i _ => 2 - (intOf i).toNat)
      case atStart => exact ⟨.inl rfl, Below.refl _ _⟩
      case round =>
        obtain ⟨hi, hx⟩ := hrel
        have HX2 : Hid (Below wo.heap.size wo wr) := hx
        clear hx
        rcases hi with rfl | rfl | rfl
        · have HZ : Hid (Below wo.heap.size wo wr) := HX2.out
          have Y : Hid (∀ W, Below wo.heap.size wo W → W.cell? ⟨w5.heap.size, 0, none⟩ = some (.pointer (some ⟨A false, 0, none⟩)) ∧ W.cell? ⟨w5.heap.size, 2, none⟩ = some (.pointer (some ⟨B false, 0, none⟩))) := fun W h => ⟨(hW.below h).cellS false, (hW.below h).cellX false⟩
          have C1 : Hid (∀ W, Below wo.heap.size wo W → Calls Tryd.prog 13 #[.pointer (some ⟨B false, 0, none⟩)] W fun e w' => ∃ u, e = .returned u ∧ RunsIn w' u (S false).runs ∧ Below wo.heap.size wo w') := fun W h => (rruns_any W _ _ _ _ ((hW.below h).rf false)).mono (by rintro e w' ⟨u, h1, h2, h3⟩; exact ⟨u, h1, h2.in, h.trans (h3.mono h.size)⟩)
          have C2 : Hid (∀ W u, Below wo.heap.size wo W → RunsIn W u (S false).runs → Calls Tryd.prog 12 #[.pointer (some ⟨A false, 0, none⟩), u] W fun e w' => e = .returned (.bool true) ∧ Below wo.heap.size wo w') := fun W u h hu => (lawRuns_any W _ _ ((hW.below h).sp false) (HTR.out W h) u _ hu).mono (by rw [decide_eq_true rfl]; rintro e w' ⟨h1, h3⟩; exact ⟨h1, h.trans (h3.mono h.size)⟩)
          have C3 : Hid (∀ W, Below wo.heap.size wo W → Calls Tryd.prog 15 #[.pointer (some ⟨B false, 0, none⟩)] W fun e w' => ∃ u, e = .returned u ∧ (convert 37 9 u).run Tryd.prog w' = .ok (.string (strB (S false).enc)) w' ∧ Below wo.heap.size wo w') := fun W h => (rencode_any W _ _ _ _ ((hW.below h).rf false)).mono (by
            rintro e w' ⟨u, h1, h2, h3⟩
            refine ⟨u, h1, ?_, h.trans (h3.mono h.size)⟩
            obtain ⟨a', c', e', hb'⟩ := newB_at h2
            rw [e']
            exact conv_any _ _ hb' rfl)
          have C4 : Hid (∀ W, Below wo.heap.size wo W → Calls Tryd.prog 14 #[.pointer (some ⟨A false, 0, none⟩), .string (strB (S false).enc)] W fun e w' => e = .returned (.bool true) ∧ Below wo.heap.size wo w') := fun W h => (lawBytes_any W _ _ ((hW.below h).sp false) (HTR.out W h) _).mono (by rw [decide_eq_true rfl]; rintro e w' ⟨h1, h3⟩; exact ⟨h1, h.trans (h3.mono h.size)⟩)
          have C5 : Hid (∀ W, Below wo.heap.size wo W → Calls Tryd.prog 16 #[.pointer (some ⟨A false, 0, none⟩)] W fun e w' => e = .returned (.int .i64 ((S false).used : Int)) ∧ Below wo.heap.size wo w') := fun W h => (used_any W _ _ ((hW.below h).sp false)).mono (by rintro e w' ⟨h1, q, rfl⟩; exact ⟨h1, below_draws h q⟩)
          have C6 : Hid (∀ W, Below wo.heap.size wo W → Calls Tryd.prog 17 #[.pointer (some ⟨B false, 0, none⟩)] W fun e w' => e = .returned (.int .i64 ((S false).used : Int)) ∧ Below wo.heap.size wo w') := fun W h => (rused_any W _ _ _ _ ((hW.below h).rf false)).mono (by rintro e w' ⟨h1, rfl⟩; exact ⟨h1, h⟩)
          have C7 : Hid (∀ W, Below wo.heap.size wo W → Calls Tryd.prog 18 #[.pointer (some ⟨A false, 0, none⟩)] W fun e w' => e = .returned (.int .i64 (((S false).n - (S false).used : Nat) : Int)) ∧ Below wo.heap.size wo w') := fun W h => (left_any W _ _ ((hW.below h).sp false)).mono (by rintro e w' ⟨h1, q, rfl⟩; exact ⟨h1, below_draws h q⟩)
          have C8 : Hid (∀ W, Below wo.heap.size wo W → Calls Tryd.prog 19 #[.pointer (some ⟨B false, 0, none⟩)] W fun e w' => e = .returned (.int .i64 (((S false).n - (S false).used : Nat) : Int)) ∧ Below wo.heap.size wo w') := fun W h => (rleft_any W _ _ _ _ ((hW.below h).rf false)).mono (by rintro e w' ⟨h1, q, rfl⟩; exact ⟨h1, below_draws h q⟩)
          generalize (S false).used = us at C5 C6 C7 C8
          generalize (S false).n - us = lf at C7 C8
          generalize (S false).runs = rs at C1 C2
          generalize (S false).enc = en at C3 C4
          obtain ⟨y0, y1⟩ := Y.out wr HZ.out
          clear hW
          go_wp2
          dsimp only [List.append]
          go_region_held_law (fun W' => W'.cell? ⟨w5.heap.size, 0, none⟩ = some (.pointer (some ⟨A false, 0, none⟩)) ∧ W'.cell? ⟨w5.heap.size, 2, none⟩ = some (.pointer (some ⟨B false, 0, none⟩))) (first | go_keep | (refine ⟨?_, ?_⟩ <;> assumption)) (first
            | (go_at_call 13; refine (C1.out _ (by first | exact HZ.out | exact HZ.out.drew | exact HZ.out.drew.drew)).mono ?_; rintro e z1 ⟨u1, rfl, hu1, hz⟩; have HU1 : Hid _ := hu1; have HZ : Hid (Below wo.heap.size wo z1) := hz; obtain ⟨a0, a1⟩ := Y.out _ hz; clear hu1 hz)
            | (go_at_call 12; refine (C2.out _ u1 (by first | exact HZ.out | exact HZ.out.drew | exact HZ.out.drew.drew) HU1.out).mono ?_; rintro e z2 ⟨rfl, hz⟩; have HZ : Hid (Below wo.heap.size wo z2) := hz; obtain ⟨b0, b1⟩ := Y.out _ hz; clear hz)
            | (go_at_call 15; refine (C3.out _ (by first | exact HZ.out | exact HZ.out.drew | exact HZ.out.drew.drew)).mono ?_; rintro e z3 ⟨u3, rfl, hcv, hz⟩; have HZ : Hid (Below wo.heap.size wo z3) := hz; obtain ⟨d0, d1⟩ := Y.out _ hz; clear hz)
            | (go_at_call 14; refine (C4.out _ (by first | exact HZ.out | exact HZ.out.drew | exact HZ.out.drew.drew)).mono ?_; rintro e z4 ⟨rfl, hz⟩; have HZ : Hid (Below wo.heap.size wo z4) := hz; obtain ⟨e0, e1⟩ := Y.out _ hz; clear hz)
            | (go_at_call 16; refine (C5.out _ (by first | exact HZ.out | exact HZ.out.drew | exact HZ.out.drew.drew)).mono ?_; rintro e z5 ⟨rfl, hz⟩; have HZ : Hid (Below wo.heap.size wo z5) := hz; obtain ⟨f0, f1⟩ := Y.out _ hz; clear hz)
            | (go_at_call 17; refine (C6.out _ (by first | exact HZ.out | exact HZ.out.drew | exact HZ.out.drew.drew)).mono ?_; rintro e z6 ⟨rfl, hz⟩; have HZ : Hid (Below wo.heap.size wo z6) := hz; obtain ⟨g0, g1⟩ := Y.out _ hz; clear hz)
            | (go_at_call 18; refine (C7.out _ (by first | exact HZ.out | exact HZ.out.drew | exact HZ.out.drew.drew)).mono ?_; rintro e z7 ⟨rfl, hz⟩; have HZ : Hid (Below wo.heap.size wo z7) := hz; obtain ⟨i0, i1⟩ := Y.out _ hz; clear hz)
            | (go_at_call 19; refine (C8.out _ (by first | exact HZ.out | exact HZ.out.drew | exact HZ.out.drew.drew)).mono ?_; rintro e z8 ⟨rfl, hz⟩; have HZ : Hid (Below wo.heap.size wo z8) := hz; obtain ⟨k0, k1⟩ := Y.out _ hz; clear hz))
          all_goals
            go_wp2_with fail
            exact ⟨⟨.inr (.inl (by go_num)), HZ.out⟩, by simp [intOf]⟩
        · have HZ : Hid (Below wo.heap.size wo wr) := HX2.out
          have Y : Hid (∀ W, Below wo.heap.size wo W → W.cell? ⟨w5.heap.size, 1, none⟩ = some (.pointer (some ⟨A true, 0, none⟩)) ∧ W.cell? ⟨w5.heap.size, 3, none⟩ = some (.pointer (some ⟨B true, 0, none⟩))) := fun W h => ⟨(hW.below h).cellS true, (hW.below h).cellX true⟩
          have C1 : Hid (∀ W, Below wo.heap.size wo W → Calls Tryd.prog 13 #[.pointer (some ⟨B true, 0, none⟩)] W fun e w' => ∃ u, e = .returned u ∧ RunsIn w' u (S true).runs ∧ Below wo.heap.size wo w') := fun W h => (rruns_any W _ _ _ _ ((hW.below h).rf true)).mono (by rintro e w' ⟨u, h1, h2, h3⟩; exact ⟨u, h1, h2.in, h.trans (h3.mono h.size)⟩)
          have C2 : Hid (∀ W u, Below wo.heap.size wo W → RunsIn W u (S true).runs → Calls Tryd.prog 12 #[.pointer (some ⟨A true, 0, none⟩), u] W fun e w' => e = .returned (.bool true) ∧ Below wo.heap.size wo w') := fun W u h hu => (lawRuns_any W _ _ ((hW.below h).sp true) (HTR.out W h) u _ hu).mono (by rw [decide_eq_true rfl]; rintro e w' ⟨h1, h3⟩; exact ⟨h1, h.trans (h3.mono h.size)⟩)
          have C3 : Hid (∀ W, Below wo.heap.size wo W → Calls Tryd.prog 15 #[.pointer (some ⟨B true, 0, none⟩)] W fun e w' => ∃ u, e = .returned u ∧ (convert 37 9 u).run Tryd.prog w' = .ok (.string (strB (S true).enc)) w' ∧ Below wo.heap.size wo w') := fun W h => (rencode_any W _ _ _ _ ((hW.below h).rf true)).mono (by
            rintro e w' ⟨u, h1, h2, h3⟩
            refine ⟨u, h1, ?_, h.trans (h3.mono h.size)⟩
            obtain ⟨a', c', e', hb'⟩ := newB_at h2
            rw [e']
            exact conv_any _ _ hb' rfl)
          have C4 : Hid (∀ W, Below wo.heap.size wo W → Calls Tryd.prog 14 #[.pointer (some ⟨A true, 0, none⟩), .string (strB (S true).enc)] W fun e w' => e = .returned (.bool true) ∧ Below wo.heap.size wo w') := fun W h => (lawBytes_any W _ _ ((hW.below h).sp true) (HTR.out W h) _).mono (by rw [decide_eq_true rfl]; rintro e w' ⟨h1, h3⟩; exact ⟨h1, h.trans (h3.mono h.size)⟩)
          have C5 : Hid (∀ W, Below wo.heap.size wo W → Calls Tryd.prog 16 #[.pointer (some ⟨A true, 0, none⟩)] W fun e w' => e = .returned (.int .i64 ((S true).used : Int)) ∧ Below wo.heap.size wo w') := fun W h => (used_any W _ _ ((hW.below h).sp true)).mono (by rintro e w' ⟨h1, q, rfl⟩; exact ⟨h1, below_draws h q⟩)
          have C6 : Hid (∀ W, Below wo.heap.size wo W → Calls Tryd.prog 17 #[.pointer (some ⟨B true, 0, none⟩)] W fun e w' => e = .returned (.int .i64 ((S true).used : Int)) ∧ Below wo.heap.size wo w') := fun W h => (rused_any W _ _ _ _ ((hW.below h).rf true)).mono (by rintro e w' ⟨h1, rfl⟩; exact ⟨h1, h⟩)
          have C7 : Hid (∀ W, Below wo.heap.size wo W → Calls Tryd.prog 18 #[.pointer (some ⟨A true, 0, none⟩)] W fun e w' => e = .returned (.int .i64 (((S true).n - (S true).used : Nat) : Int)) ∧ Below wo.heap.size wo w') := fun W h => (left_any W _ _ ((hW.below h).sp true)).mono (by rintro e w' ⟨h1, q, rfl⟩; exact ⟨h1, below_draws h q⟩)
          have C8 : Hid (∀ W, Below wo.heap.size wo W → Calls Tryd.prog 19 #[.pointer (some ⟨B true, 0, none⟩)] W fun e w' => e = .returned (.int .i64 (((S true).n - (S true).used : Nat) : Int)) ∧ Below wo.heap.size wo w') := fun W h => (rleft_any W _ _ _ _ ((hW.below h).rf true)).mono (by rintro e w' ⟨h1, q, rfl⟩; exact ⟨h1, below_draws h q⟩)
          generalize (S true).used = us at C5 C6 C7 C8
          generalize (S true).n - us = lf at C7 C8
          generalize (S true).runs = rs at C1 C2
          generalize (S true).enc = en at C3 C4
          obtain ⟨y0, y1⟩ := Y.out wr HZ.out
          clear hW
          go_wp2
          dsimp only [List.append]
          go_region_held_law (fun W' => W'.cell? ⟨w5.heap.size, 1, none⟩ = some (.pointer (some ⟨A true, 0, none⟩)) ∧ W'.cell? ⟨w5.heap.size, 3, none⟩ = some (.pointer (some ⟨B true, 0, none⟩))) (first | go_keep | (refine ⟨?_, ?_⟩ <;> assumption)) (first
            | (go_at_call 13; refine (C1.out _ (by first | exact HZ.out | exact HZ.out.drew | exact HZ.out.drew.drew)).mono ?_; rintro e z1 ⟨u1, rfl, hu1, hz⟩; have HU1 : Hid _ := hu1; have HZ : Hid (Below wo.heap.size wo z1) := hz; obtain ⟨a0, a1⟩ := Y.out _ hz; clear hu1 hz)
            | (go_at_call 12; refine (C2.out _ u1 (by first | exact HZ.out | exact HZ.out.drew | exact HZ.out.drew.drew) HU1.out).mono ?_; rintro e z2 ⟨rfl, hz⟩; have HZ : Hid (Below wo.heap.size wo z2) := hz; obtain ⟨b0, b1⟩ := Y.out _ hz; clear hz)
            | (go_at_call 15; refine (C3.out _ (by first | exact HZ.out | exact HZ.out.drew | exact HZ.out.drew.drew)).mono ?_; rintro e z3 ⟨u3, rfl, hcv, hz⟩; have HZ : Hid (Below wo.heap.size wo z3) := hz; obtain ⟨d0, d1⟩ := Y.out _ hz; clear hz)
            | (go_at_call 14; refine (C4.out _ (by first | exact HZ.out | exact HZ.out.drew | exact HZ.out.drew.drew)).mono ?_; rintro e z4 ⟨rfl, hz⟩; have HZ : Hid (Below wo.heap.size wo z4) := hz; obtain ⟨e0, e1⟩ := Y.out _ hz; clear hz)
            | (go_at_call 16; refine (C5.out _ (by first | exact HZ.out | exact HZ.out.drew | exact HZ.out.drew.drew)).mono ?_; rintro e z5 ⟨rfl, hz⟩; have HZ : Hid (Below wo.heap.size wo z5) := hz; obtain ⟨f0, f1⟩ := Y.out _ hz; clear hz)
            | (go_at_call 17; refine (C6.out _ (by first | exact HZ.out | exact HZ.out.drew | exact HZ.out.drew.drew)).mono ?_; rintro e z6 ⟨rfl, hz⟩; have HZ : Hid (Below wo.heap.size wo z6) := hz; obtain ⟨g0, g1⟩ := Y.out _ hz; clear hz)
            | (go_at_call 18; refine (C7.out _ (by first | exact HZ.out | exact HZ.out.drew | exact HZ.out.drew.drew)).mono ?_; rintro e z7 ⟨rfl, hz⟩; have HZ : Hid (Below wo.heap.size wo z7) := hz; obtain ⟨i0, i1⟩ := Y.out _ hz; clear hz)
            | (go_at_call 19; refine (C8.out _ (by first | exact HZ.out | exact HZ.out.drew | exact HZ.out.drew.drew)).mono ?_; rintro e z8 ⟨rfl, hz⟩; have HZ : Hid (Below wo.heap.size wo z8) := hz; obtain ⟨k0, k1⟩ := Y.out _ hz; clear hz))
          all_goals
            go_wp2_with fail
            exact ⟨⟨.inr (.inr (by go_num)), HZ.out⟩, by simp [intOf]⟩
        · go_wp2
          go_ret
          exact ⟨rfl, HBE.out.trans (HX2.out.mono HBE.out.size)⟩
theorem spacePlays_any (w : World) (ht : Tab w) (blocks : Int) (_ : (Lit.int .i64 blocks).wf = true) (used : Int) (_ : (Lit.int .i64 used).wf = true) (other : Int) (_ : (Lit.int .i64 other).wf = true) (taken : Int) (_ : (Lit.int .i64 taken).wf = true) (v : Value) (L : List OpV) (hL : OpsIn w v L) :
    Calls Tryd.prog 4 #[.int .i64 blocks, .int .i64 used, .int .i64 other, .int .i64 taken, v] w fun e w' => e = .returned (.bool true) ∧ Below w.heap.size w w' := by
  cases h : newOk blocks used with
  | false =>
    cases k : newOk other taken with
    | false => exact plays_ff w ht _ _ _ _ v h k
    | true => exact plays_ft w ht _ _ _ _ v h k
  | true =>
    cases k : newOk other taken with
    | false => exact plays_tf w ht _ _ _ _ v h k
    | true =>
      obtain ⟨n1, m1, rfl, rfl, p1, p2, p3⟩ := newOk_nat h
      obtain ⟨n2, m2, rfl, rfl, q1, q2, q3⟩ := newOk_nat k
      exact plays_ok w ht n1 m1 n2 m2 p1 p2 p3 q1 q2 q3 v L hL
end Go.Proofs.YtlokplnapaghhaaDoor
