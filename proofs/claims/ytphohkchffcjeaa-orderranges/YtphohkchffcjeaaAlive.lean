/- The chapter's examples: the law's own function 'awake' answers true. -/
import Derived.Test.YtphohkchffcjeaaAwake
namespace Go.Proofs.Ytphohkchffcjeaa
open Go.RowKit

theorem const_any (W : World) (m : Nat) (C : Array Value) (n c : Nat) (h : W.heap.size = m) : Sem.run Try.prog (convert 23 23 (.slice (some ⟨m, 0, none⟩) n c)) (W.alloc (.cells C 5)) = .ok (.slice (some ⟨m, 0, none⟩) n c) (W.alloc (.cells C 5 (C.size, C.size + 1))) := by
  subst h
  exact Lib.run_convert_bytes_const (P := Try.prog) W 23 5 C n c Try.underlying23 Try.underlying5
def lits (k : Key) : Array Value := (k.map encB).toArray
theorem lits_at (k : Key) (j : Nat) (c : UInt8) (h : k[j]? = some c) : (lits k)[j]? = some (.int .u8 (c.toNat : Int)) := by
  simp [lits, encB, h]
/-- Two literals, one behind the other. -/
theorem two_lits (w : World) (x y : Key) (f g : Nat × Nat) (C D : Array Value) (hC : C = lits x) (hD : D = lits y) (hx : x.length ≤ 100) (hy : y.length ≤ 100) (n m : Nat) (hn : x.length = n) (hm : y.length = m) :
    KeyAt ((w.alloc (.cells C 5 f)).alloc (.cells D 5 g)) (.slice (some ⟨w.heap.size, 0, none⟩) n n) x ∧ KeyAt ((w.alloc (.cells C 5 f)).alloc (.cells D 5 g)) (.slice (some ⟨w.heap.size + 1, 0, none⟩) m m) y ∧ Below w.heap.size w ((w.alloc (.cells C 5 f)).alloc (.cells D 5 g)) := by
  subst hC hD
  have e1 : (w.alloc (.cells (lits x) 5 f)).heap[w.heap.size]? = some (.cells (lits x) 5 f) := heap_alloc_last _ _
  have e2 : ((w.alloc (.cells (lits x) 5 f)).alloc (.cells (lits y) 5 g)).heap[w.heap.size + 1]? = some (.cells (lits y) 5 g) := by
    have : (w.alloc (.cells (lits x) 5 f)).heap.size = w.heap.size + 1 := by simp
    rw [← this]; exact heap_alloc_last _ _
  exact ⟨(key_block e1 (lits_at x) n n hn (Nat.le_refl _) (by omega)).here (below_new _ _), key_block e2 (lits_at y) m m hm (Nat.le_refl _) (by omega), (below_new w _).alloc (by simp) _⟩

theorem between_lt {w : World} {u v : Value} {x y : Key} (hu : KeyAt w u x) (hv : KeyAt w v y) (h : x < y) :
    Calls Try.prog 25 #[u, v] w fun e w' => ∃ k, e = .returned (.tuple #[k, .int .i64 0]) ∧ NewKey w.heap.size w' k (midK x y) ∧ Below w.heap.size w w' := by
  refine (between_any hu hv).mono ?_
  rintro e w1 ⟨hb1, ⟨_, k, rfl, hk⟩ | ⟨h', _⟩⟩
  · exact ⟨k, rfl, hk, hb1⟩
  · exact absurd h h'
theorem between_ge {w : World} {u v : Value} {x y : Key} (hu : KeyAt w u x) (hv : KeyAt w v y) (h : ¬ x < y) :
    Calls Try.prog 25 #[u, v] w fun e w' => e = .returned (.tuple #[.slice none 0 0, .int .i64 41]) ∧ Below w.heap.size w w' := by
  refine (between_any hu hv).mono ?_
  rintro e w1 ⟨hb1, ⟨h', _⟩ | ⟨_, rfl⟩⟩
  · exact absurd h' h
  · exact ⟨rfl, hb1⟩
theorem RangeAt.slices {w : World} {v : Value} {r : Rg} (h : RangeAt w v r) : ∃ a1 c1 a2 c2, v = .agg #[.slice a1 r.lo.length c1, .slice a2 r.hi.length c2, .bool r.all] := by
  obtain ⟨v1, v2, rfl, h1, h2⟩ := h.is
  obtain ⟨a1, c1, rfl, _⟩ := h1.is
  obtain ⟨a2, c2, rfl, _⟩ := h2.is
  exact ⟨a1, c1, a2, c2, rfl⟩
/-- A list that is written out. -/
theorem list_lits (w : World) (L : List It) (C : Array Value) (n : Nat) (hC : C = (flat L).toArray) (hn : L.length = n) (h5 : n ≤ 100) (hok : ∀ e ∈ L, e.Ok w.heap.size w) : ListAt (w.alloc (.cells C 36)).heap.size (w.alloc (.cells C 36)) (.slice (some ⟨w.heap.size, 0, none⟩) n n) L := by
  subst hC hn
  refine ⟨⟨_, _, rfl, Nat.le_refl _, fun h => (by cases h), fun j u hj => ⟨_, 0, rfl, by simp, ?_⟩⟩, by omega, fun e he => ((hok e he).below (below_new _ _)).mono (by simp)⟩
  rw [Nat.zero_add, row_cell (heap_alloc_last w _)]
  simpa using hj
theorem NewKey.in {base : Nat} {w : World} {v : Value} {k : Key} (h : NewKey base w v k) : KeyIn w.heap.size w v k := h.at.in
theorem NewList.list {base : Nat} {w : World} {v : Value} {F : List It} (h : NewList base w v F) (hs : F.length * 56 ≤ 140737488355328) : ListAt w.heap.size w v F := by
  refine ⟨?_, hs, fun e he => ⟨(h.keys e he).1.in, (h.keys e he).2.in⟩⟩
  rcases own_row h.own with ⟨rfl, rfl⟩ | ⟨g, c, rfl, _, hc, _, hr⟩
  · exact ⟨none, 0, rfl, Nat.le_refl _, fun _ => rfl, fun j u hj => by simp [flat] at hj⟩
  · refine ⟨_, c, rfl, hc, fun h => (by cases h), fun j u hj => ⟨g, 0, rfl, hr.lt, ?_⟩⟩
    obtain ⟨cur, h1, _, h3⟩ := hr.is
    have hl := (List.getElem?_eq_some_iff.1 hj).1
    rw [flat_length] at hl
    rw [Nat.zero_add, row_cell h1, ← hj, ← h3, List.getElem?_take, if_pos hl, Array.getElem?_toList]
theorem Ok_at {w : World} {v1 v2 : Value} {r : Rg} (h : RangeAt w (.agg #[v1, v2, .bool r.all]) r) : It.Ok w.heap.size w ⟨v1, v2, r⟩ := by
  obtain ⟨u1, u2, e, h1, h2⟩ := h.is
  cases e
  exact ⟨h1.in, h2.in⟩
theorem mid1 : midK [97, 98, 99] [97, 98, 102] = [97, 98, 102] := by decide
theorem ahead1 : Rg.ahead ⟨[97], [122], false⟩ ⟨[99], [100], false⟩ = ⟨[97], [99], false⟩ := by decide
theorem behind1 : Rg.behind ⟨[97], [122], false⟩ ⟨[99], [100], false⟩ = ⟨[100], [122], false⟩ := by decide
theorem cover1 : Rg.cover [⟨[100], [102], false⟩, ⟨[97], [98], false⟩, ⟨[98], [99], false⟩, ⟨[101], [103], false⟩, ⟨[122], [121], false⟩] = [⟨[97], [99], false⟩, ⟨[100], [103], false⟩] := by decide
theorem lt1 : ([97, 98, 99] : Key) < [97, 98, 102] := by decide
theorem lt2 : ¬ ([97] : Key) < [97] := by decide

set_option maxHeartbeats 1600000 in
set_option maxRecDepth 100000 in
theorem awake_any (w : World) : Calls Try.prog 9 #[] w fun e w' => e = .returned (.bool true) ∧ Below w.heap.size w w' := by
  have hcv := const_any
  go_enter Try.func9, Try.ntmps9
  go_wp2_with fail
  obtain ⟨q1, q2, q3⟩ := two_lits w [97, 98, 99] [97, 98, 102] (3, 4) (3, 4) #[.int .u8 97, .int .u8 98, .int .u8 99] #[.int .u8 97, .int .u8 98, .int .u8 102] rfl rfl (by decide) (by decide) 3 3 rfl rfl
  have HB0 : Hid _ := q3
  refine (between_lt q1 q2 lt1).mono ?_
  rintro e w1 ⟨k, rfl, hk, hb1⟩
  rw [mid1] at hk
  obtain ⟨ak, ck, ek, _⟩ := hk.at.is
  simp only [List.length_cons, List.length_nil, Nat.zero_add] at ek
  subst ek
  have HB1 : Hid (Below w.heap.size w w1) := HB0.out.trans (hb1.mono HB0.out.size)
  have HK1 : Hid (KeyAt w1 (.slice ak 3 ck) [97, 98, 102]) := hk.at
  clear q1 q2 q3 hb1 hk
  go_wp2_with fail
  obtain ⟨q1, q2, q3⟩ := two_lits w1 [97] [97] (1, 2) (1, 2) #[.int .u8 97] #[.int .u8 97] rfl rfl (by decide) (by decide) 1 1 rfl rfl
  have HB2' : Hid _ := q3
  refine (between_ge q1 q2 lt2).mono ?_
  rintro e w2 ⟨rfl, hb2⟩
  have HB12 : Hid (Below w1.heap.size w1 w2) := HB2'.out.trans (hb2.mono HB2'.out.size)
  have HB2 : Hid (Below w.heap.size w w2) := HB1.out.trans (HB12.out.mono HB1.out.size)
  have HK2 : Hid (KeyAt w2 (.slice ak 3 ck) [97, 98, 102]) := HK1.out.here HB12.out
  clear q1 q2 q3 hb2
  go_wp2_with fail
  -- Minus
  refine (of_any w2 [97] [122] _ _ rfl rfl (by decide) (by decide)).mono ?_
  rintro e w3 ⟨x1, rfl, hx1, hb3⟩
  have HX1 : Hid (RangeAt w3 x1 ⟨[97], [122], false⟩) := hx1
  have HB3 : Hid (Below w2.heap.size w2 w3) := hb3
  clear hx1 hb3
  go_wp2_with fail
  refine (of_any w3 [99] [100] _ _ rfl rfl (by decide) (by decide)).mono ?_
  rintro e w4 ⟨x2, rfl, hx2, hb4⟩
  have HX2 : Hid (RangeAt w4 x2 ⟨[99], [100], false⟩) := hx2
  have HB4 : Hid (Below w3.heap.size w3 w4) := hb4
  clear hx2 hb4
  go_wp2_with fail
  refine (minus_any (HX1.out.here HB4.out) HX2.out).mono ?_
  rintro e w5 ⟨y1, y2, rfl, hy1, hy2, _, hb5⟩
  rw [ahead1] at hy1
  rw [behind1] at hy2
  obtain ⟨b1, d1, b2, d2, rfl⟩ := hy1.slices
  obtain ⟨b3, d3, b4, d4, rfl⟩ := hy2.slices
  simp only [List.length_cons, List.length_nil, Nat.zero_add] at hy1 hy2
  have HB25 : Hid (Below w2.heap.size w2 w5) := (HB3.out.trans (HB4.out.mono HB3.out.size)).trans (hb5.mono (Nat.le_trans HB3.out.size HB4.out.size))
  have HY1 : Hid _ := hy1.at
  have HY2 : Hid _ := hy2.at
  have HB5 : Hid (Below w.heap.size w w5) := HB2.out.trans (HB25.out.mono HB2.out.size)
  have HK5 : Hid (KeyAt w5 (.slice ak 3 ck) [97, 98, 102]) := HK2.out.here HB25.out
  clear hy1 hy2 hb5
  go_wp2_with fail
  obtain ⟨W0, hW0⟩ : ∃ W0, W0 = (w5.alloc (.cells #[.slice b1 1 d1, .slice b2 1 d2, .bool false] 36)).alloc (.cells #[.slice b3 1 d3, .slice b4 1 d4, .bool false] 36) := ⟨_, rfl⟩
  rw [← hW0]
  have HBV : Hid (Below w5.heap.size w5 W0) := by rw [hW0]; exact (below_new _ _).alloc (by simp) _
  have HBX1 : Hid (Box W0 w5.heap.size (.slice b1 1 d1) (.slice b2 1 d2) (.bool false)) := by rw [hW0]; exact (Box.new _ _ _ _).alloc _
  have HBX2 : Hid (Box W0 (w5.heap.size + 1) (.slice b3 1 d3) (.slice b4 1 d4) (.bool false)) := by
    rw [hW0]
    have := Box.new (w5.alloc (.cells #[.slice b1 1 d1, .slice b2 1 d2, .bool false] 36)) (.slice b3 1 d3) (.slice b4 1 d4) (.bool false)
    show Box _ _ _ _ _
    simpa using this
  clear hW0
  refine (of_any W0 [100] [102] _ _ rfl rfl (by decide) (by decide)).mono ?_
  rintro e W1 ⟨z0, rfl, hz0, hbv0⟩
  obtain ⟨p0, m0, q0, n0, rfl⟩ := hz0.slices
  simp only [List.length_cons, List.length_nil, Nat.zero_add] at hz0
  have HZ0 : Hid (RangeAt W1 (.agg #[.slice p0 1 m0, .slice q0 1 n0, .bool false]) ⟨[100], [102], false⟩) := hz0
  have HV0 : Hid (Below W0.heap.size W0 W1) := hbv0
  clear hz0 hbv0
  go_wp2_with fail
  refine (of_any W1 [97] [98] _ _ rfl rfl (by decide) (by decide)).mono ?_
  rintro e W2 ⟨z1, rfl, hz1, hbv1⟩
  obtain ⟨p1, m1, q1, n1, rfl⟩ := hz1.slices
  simp only [List.length_cons, List.length_nil, Nat.zero_add] at hz1
  have HZ1 : Hid (RangeAt W2 (.agg #[.slice p1 1 m1, .slice q1 1 n1, .bool false]) ⟨[97], [98], false⟩) := hz1
  have HV1 : Hid (Below W1.heap.size W1 W2) := hbv1
  clear hz1 hbv1
  go_wp2_with fail
  refine (of_any W2 [98] [99] _ _ rfl rfl (by decide) (by decide)).mono ?_
  rintro e W3 ⟨z2, rfl, hz2, hbv2⟩
  obtain ⟨p2, m2, q2, n2, rfl⟩ := hz2.slices
  simp only [List.length_cons, List.length_nil, Nat.zero_add] at hz2
  have HZ2 : Hid (RangeAt W3 (.agg #[.slice p2 1 m2, .slice q2 1 n2, .bool false]) ⟨[98], [99], false⟩) := hz2
  have HV2 : Hid (Below W2.heap.size W2 W3) := hbv2
  clear hz2 hbv2
  go_wp2_with fail
  refine (of_any W3 [101] [103] _ _ rfl rfl (by decide) (by decide)).mono ?_
  rintro e W4 ⟨z3, rfl, hz3, hbv3⟩
  obtain ⟨p3, m3, q3, n3, rfl⟩ := hz3.slices
  simp only [List.length_cons, List.length_nil, Nat.zero_add] at hz3
  have HZ3 : Hid (RangeAt W4 (.agg #[.slice p3 1 m3, .slice q3 1 n3, .bool false]) ⟨[101], [103], false⟩) := hz3
  have HV3 : Hid (Below W3.heap.size W3 W4) := hbv3
  clear hz3 hbv3
  go_wp2_with fail
  refine (of_any W4 [122] [121] _ _ rfl rfl (by decide) (by decide)).mono ?_
  rintro e W5 ⟨z4, rfl, hz4, hbv4⟩
  obtain ⟨p4, m4, q4, n4, rfl⟩ := hz4.slices
  simp only [List.length_cons, List.length_nil, Nat.zero_add] at hz4
  have HZ4 : Hid (RangeAt W5 (.agg #[.slice p4 1 m4, .slice q4 1 n4, .bool false]) ⟨[122], [121], false⟩) := hz4
  have HV4 : Hid (Below W4.heap.size W4 W5) := hbv4
  clear hz4 hbv4
  go_wp2_with fail
  have b45 := HV4.out
  have b35 : Below W3.heap.size W3 W5 := HV3.out.trans (b45.mono HV3.out.size)
  have b25 : Below W2.heap.size W2 W5 := HV2.out.trans (b35.mono HV2.out.size)
  have b15 : Below W1.heap.size W1 W5 := HV1.out.trans (b25.mono HV1.out.size)
  have b05 : Below W0.heap.size W0 W5 := HV0.out.trans (b15.mono HV0.out.size)
  have hlist := list_lits W5 [⟨.slice p0 1 m0, .slice q0 1 n0, ⟨[100], [102], false⟩⟩, ⟨.slice p1 1 m1, .slice q1 1 n1, ⟨[97], [98], false⟩⟩, ⟨.slice p2 1 m2, .slice q2 1 n2, ⟨[98], [99], false⟩⟩, ⟨.slice p3 1 m3, .slice q3 1 n3, ⟨[101], [103], false⟩⟩, ⟨.slice p4 1 m4, .slice q4 1 n4, ⟨[122], [121], false⟩⟩] _ 5 rfl rfl (by decide) (by
    intro e he
    simp only [List.mem_cons, List.not_mem_nil, or_false] at he
    rcases he with rfl | rfl | rfl | rfl | rfl
    · exact Ok_at (HZ0.out.here b15)
    · exact Ok_at (HZ1.out.here b25)
    · exact Ok_at (HZ2.out.here b35)
    · exact Ok_at (HZ3.out.here b45)
    · exact Ok_at HZ4.out)
  have HB05 : Hid (Below W0.heap.size W0 W5) := b05
  clear b45 b35 b25 b15 b05
  refine (cover_any hlist).mono ?_
  rintro e w6 ⟨vl, F, rfl, hF, hnl, hFl, hb6⟩
  clear hlist
  have hb56 : Below W5.heap.size W5 w6 := (below_new W5 _).trans (hb6.mono (by simp))
  have hb06 : Below W0.heap.size W0 w6 := HB05.out.trans (hb56.mono HB05.out.size)
  have hb526 : Below w5.heap.size w5 w6 := HBV.out.trans (hb06.mono HBV.out.size)
  have HB6 : Hid (Below w.heap.size w w6) := HB5.out.trans (hb526.mono HB5.out.size)
  have HK6 : Hid (KeyAt w6 (.slice ak 3 ck) [97, 98, 102]) := HK5.out.here hb526
  have HC1 : Hid (Box w6 w5.heap.size (.slice b1 1 d1) (.slice b2 1 d2) (.bool false)) := HBX1.out.here hb06
  have HC2 : Hid (Box w6 (w5.heap.size + 1) (.slice b3 1 d3) (.slice b4 1 d4) (.bool false)) := HBX2.out.here hb06
  have HR1 : Hid (RangeAt w6 (.agg #[.slice b1 1 d1, .slice b2 1 d2, .bool false]) ⟨[97], [99], false⟩) := HY1.out.here hb526
  have HR2 : Hid (RangeAt w6 (.agg #[.slice b3 1 d3, .slice b4 1 d4, .bool false]) ⟨[100], [122], false⟩) := HY2.out.here hb526
  simp only [List.length_cons, List.length_nil, Nat.zero_add] at hFl
  have HL6 : Hid (ListAt w6.heap.size w6 vl F) := hnl.list (by omega)
  have HF : Hid (F.map (·.r) = [⟨[97], [99], false⟩, ⟨[100], [103], false⟩]) := by rw [Hid, hF]; exact cover1
  obtain ⟨al, cl, rfl⟩ := hnl.list (by omega) |>.slice
  clear hb56 hb06 hb526 hb6 hnl hF
  obtain ⟨k0, k1, k2⟩ := HC1.out.cells
  go_wp2_with fail
  go_region_held_law (fun W' => W'.cell? ⟨w5.heap.size, 0, none⟩ = some (.slice b1 1 d1) ∧ W'.cell? ⟨w5.heap.size, 1, none⟩ = some (.slice b2 1 d2) ∧ W'.cell? ⟨w5.heap.size, 2, none⟩ = some (.bool false)) (first | go_keep | (refine ⟨?_, ?_, ?_⟩ <;> assumption))
    (first
      | (go_at_call 27; refine (of_any _ [97] [99] _ _ rfl rfl (by decide) (by decide)).mono ?_
         rintro e w7 ⟨z5, rfl, hz5, hb7⟩
         have HZ5 : Hid (RangeAt w7 z5 ⟨[97], [99], false⟩) := hz5
         have HB7 : Hid (Below w6.heap.size w6 w7) := ((Below.refl _ w6).drew).trans hb7
         clear hz5 hb7
         obtain ⟨k0', k1', k2'⟩ := (HC1.out.here HB7.out).cells)
      | (go_at_call 28; refine (sameRange_any (HR1.out.here HB7.out) HZ5.out).mono ?_
         rintro e w8 ⟨rfl, hb8⟩
         have HB8 : Hid (Below w6.heap.size w6 w8) := HB7.out.trans (hb8.mono HB7.out.size)
         clear hb8
         obtain ⟨k0'', k1'', k2''⟩ := (HC1.out.here HB8.out).cells))
  clear k0 k1 k2 k0' k1' k2' k0'' k1'' k2''
  obtain ⟨k0, k1, k2⟩ := (HC2.out.here HB8.out).cells
  go_wp2_with fail
  go_region_held_law (fun W' => W'.cell? ⟨w5.heap.size + 1, 0, none⟩ = some (.slice b3 1 d3) ∧ W'.cell? ⟨w5.heap.size + 1, 1, none⟩ = some (.slice b4 1 d4) ∧ W'.cell? ⟨w5.heap.size + 1, 2, none⟩ = some (.bool false)) (first | go_keep | (refine ⟨?_, ?_, ?_⟩ <;> assumption))
    (first
      | (go_at_call 27; refine (of_any _ [100] [122] _ _ rfl rfl (by decide) (by decide)).mono ?_
         rintro e w9 ⟨z6, rfl, hz6, hb9⟩
         have HZ6 : Hid (RangeAt w9 z6 ⟨[100], [122], false⟩) := hz6
         have HB9 : Hid (Below w6.heap.size w6 w9) := HB8.out.trans ((((Below.refl _ w8).drew).trans hb9).mono HB8.out.size)
         clear hz6 hb9
         obtain ⟨k0', k1', k2'⟩ := (HC2.out.here HB9.out).cells)
      | (go_at_call 28; refine (sameRange_any (HR2.out.here HB9.out) HZ6.out).mono ?_
         rintro e wA ⟨rfl, hbA⟩
         have HBA : Hid (Below w6.heap.size w6 wA) := HB9.out.trans (hbA.mono HB9.out.size)
         clear hbA
         obtain ⟨k0'', k1'', k2''⟩ := (HC2.out.here HBA.out).cells))
  clear k0 k1 k2 k0' k1' k2' k0'' k1'' k2''
  go_wp2_with fail
  refine (of_any wA [97] [99] _ _ rfl rfl (by decide) (by decide)).mono ?_
  rintro e wB ⟨z7, rfl, hz7, hbB⟩
  obtain ⟨p7, m7, q7, n7, rfl⟩ := hz7.slices
  simp only [List.length_cons, List.length_nil, Nat.zero_add] at hz7
  have HZ7 : Hid (RangeAt wB (.agg #[.slice p7 1 m7, .slice q7 1 n7, .bool false]) ⟨[97], [99], false⟩) := hz7
  have HBB : Hid (Below wA.heap.size wA wB) := hbB
  clear hz7 hbB
  go_wp2_with fail
  refine (of_any wB [100] [103] _ _ rfl rfl (by decide) (by decide)).mono ?_
  rintro e wC ⟨z8, rfl, hz8, hbC⟩
  obtain ⟨p8, m8, q8, n8, rfl⟩ := hz8.slices
  simp only [List.length_cons, List.length_nil, Nat.zero_add] at hz8
  have HZ8 : Hid (RangeAt wC (.agg #[.slice p8 1 m8, .slice q8 1 n8, .bool false]) ⟨[100], [103], false⟩) := hz8
  have HBC : Hid (Below wB.heap.size wB wC) := hbC
  clear hz8 hbC
  have hb6C : Below w6.heap.size w6 wC := HBA.out.trans ((HBB.out.trans (HBC.out.mono HBB.out.size)).mono HBA.out.size)
  go_wp2_with fail
  have hlist := list_lits wC [⟨.slice p7 1 m7, .slice q7 1 n7, ⟨[97], [99], false⟩⟩, ⟨.slice p8 1 m8, .slice q8 1 n8, ⟨[100], [103], false⟩⟩] _ 2 rfl rfl (by decide) (by
    intro e he
    simp only [List.mem_cons, List.not_mem_nil, or_false] at he
    rcases he with rfl | rfl
    · exact Ok_at (HZ7.out.here HBC.out)
    · exact Ok_at HZ8.out)
  refine (sameRanges_any ((HL6.out.here hb6C).here (below_new wC _)) hlist).mono ?_
  rintro e wD ⟨rfl, hbD⟩
  have hb6D : Below w6.heap.size w6 wD := hb6C.trans (((below_new wC _).trans (hbD.mono (by simp))).mono hb6C.size)
  have HBD : Hid (Below w.heap.size w wD) := HB6.out.trans (hb6D.mono HB6.out.size)
  have cvk := conv_key (HK6.out.here hb6D)
  have hsame : decide (F.map (·.r) = [⟨.slice p7 1 m7, .slice q7 1 n7, ⟨[97], [99], false⟩⟩, (⟨.slice p8 1 m8, .slice q8 1 n8, ⟨[100], [103], false⟩⟩ : It)].map (·.r)) = true := by rw [HF.out]; rfl
  rw [hsame]
  have hstr : strB [97, 98, 102] = ⟨#[97, 98, 102]⟩ := rfl
  rw [hstr] at cvk
  clear hsame hstr hlist hb6C hb6D hbD
  go_wp2_with fail
  obtain ⟨q1, q2, q3⟩ := two_lits wD [97] [97, 98] (1, 2) (2, 3) #[.int .u8 97] #[.int .u8 97, .int .u8 98] rfl rfl (by decide) (by decide) 1 2 rfl rfl
  have HBE : Hid _ := q3
  have hc1 : cmpK [97] [97, 98] = -1 := by decide
  refine (compare_key q1 q2).mono ?_
  rintro e _ ⟨rfl, qq, rfl⟩
  rw [hc1]
  clear q1 q2 q3 hc1 cvk
  obtain ⟨wE, hwE⟩ : ∃ wE, wE = ((wD.alloc (.cells #[.int .u8 97] 5 (1, 2))).alloc (.cells #[.int .u8 97, .int .u8 98] 5 (2, 3))).drewN qq := ⟨_, rfl⟩
  rw [← hwE]
  have HBF : Hid (Below w.heap.size w wE) := by rw [hwE]; exact below_draws (HBD.out.trans (HBE.out.mono HBD.out.size)) qq
  clear hwE
  go_wp2_with fail
  obtain ⟨q1, q2, q3⟩ := two_lits wE [97, 98, 99] [97, 98, 100] (3, 4) (3, 4) #[.int .u8 97, .int .u8 98, .int .u8 99] #[.int .u8 97, .int .u8 98, .int .u8 100] rfl rfl (by decide) (by decide) 3 3 rfl rfl
  have HBG : Hid _ := q3
  have hc1 : (comK [97, 98, 99] [97, 98, 100] : Int) = 2 := by decide
  refine (common_key q1 q2).mono ?_
  rintro e _ ⟨rfl, qr, rfl⟩
  rw [hc1]
  clear q1 q2 q3 hc1
  go_wp2
  go_ret
  exact ⟨rfl, below_draws (HBF.out.trans (HBG.out.mono HBF.out.size)) qr⟩
end Go.Proofs.Ytphohkchffcjeaa
