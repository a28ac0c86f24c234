/- The chapter's examples: the law's own function 'alive' answers true. -/
import Derived.Test.YtaehchijeinloaaMake
import Derived.Test.YtaehchijeinloaaRepl
namespace Go.Proofs.Ytaehchijeinloaa
open Go.RowKit

def ex1 : Kd := ⟨[5, 9, 4], [[99], [102]]⟩
def ex2 : Kd := ⟨[7, 8], [[100]]⟩
def ex3 : Kd := ⟨[5, 7, 8, 4], [[99], [100], [102]]⟩
def exB : Key := [0, 3, 0, 0, 0, 5, 0, 0, 0, 9, 0, 0, 0, 4, 0, 1, 99, 0, 1, 102]
theorem ex1_ok : checkK 512 ex1 = 0 := by decide
theorem ex1_enc : encK ex1 = exB := by decide
theorem ex1_dec : decK 512 exB = some ex1 := decK_iff.2 ⟨ex1_ok, ex1_enc⟩
theorem ex1_decD : decD 512 exB = ex1 := by unfold decD; rw [ex1_dec]; rfl
theorem ex1_decE : decErr 512 exB = 0 := decErr_ok.2 (by rw [ex1_decD]; exact ex1_dec)
theorem ex_replE : replE ex1 1 2 ex2 = 0 := by decide
theorem ex_replD : replD ex1 1 2 ex2 = ex3 := by decide
theorem ex_span : spanE ex1 3 = 1 := by decide
theorem ex_child : childK ex1.ks [99] = 1 := by decide
theorem const_any (W : World) (m : Nat) (C : Array Value) (n c : Nat) (h : W.heap.size = m) : Sem.run Try.prog (convert 27 27 (.slice (some ⟨m, 0, none⟩) n c)) (W.alloc (.cells C 5)) = .ok (.slice (some ⟨m, 0, none⟩) n c) (W.alloc (.cells C 5 (C.size, C.size + 1))) := by
  subst h
  exact Lib.run_convert_bytes_const (P := Try.prog) W 27 5 C n c Try.underlying27 Try.underlying5
def lits (k : Key) : Array Value := (k.map encB).toArray
theorem lits_at (k : Key) (j : Nat) (c : UInt8) (h : k[j]? = some c) : (lits k)[j]? = some (.int .u8 (c.toNat : Int)) := by
  simp [lits, encB, h]
theorem ints_lit (w : World) (ps : List Int) (C : Array Value) (n : Nat) (hC : C = (ps.map encI).toArray) (hn : ps.length = n) (hl : n ≤ 100) (hf : ∀ p ∈ ps, -9223372036854775808 ≤ p ∧ p ≤ 9223372036854775807) :
    IntsAt (w.alloc (.cells C 3)).heap.size (w.alloc (.cells C 3)) (.slice (some ⟨w.heap.size, 0, none⟩) n n) ps := by
  subst hC hn
  refine ⟨⟨_, _, by rw [List.length_map], by rw [List.length_map]; exact Nat.le_refl _, fun h => (by cases h), fun j u hj => ⟨_, 0, rfl, by simp, ?_⟩⟩, by omega, hf⟩
  rw [Nat.zero_add, row_cell (heap_alloc_last w _)]
  simpa using hj
theorem kids_lit (w : World) (ps : List Int) (C : Array Value) (n : Nat) (bs : Key) (hC : C = (ps.map encI).toArray) (hn : ps.length = n) (hl : n ≤ 100) (hf : ∀ p ∈ ps, -9223372036854775808 ≤ p ∧ p ≤ 9223372036854775807) (hb : bs.length ≤ 3) :
    Calls Try.prog 29 #[.string ⟨bs.toArray⟩, .slice (some ⟨w.heap.size, 0, none⟩) n n] (w.alloc (.cells C 3)) fun r w' => ∃ v', r = .returned v' ∧ (∃ L, KidsAt w'.heap.size w' v' ps L ∧ keysOf L = bs.map (fun c => [c])) ∧ Below w.heap.size w w' := by
  refine (kids_any (bs := bs) (ints_lit w ps C n hC hn hl hf) hb).mono ?_
  rintro r w' ⟨v', L, rfl, h1, h2, h3⟩
  exact ⟨v', rfl, ⟨L, h1, h2⟩, (below_new w _).trans (h3.mono (by simp))⟩

theorem below_cellz {B : Nat} {a w : World} (h : Below B a w) : ∀ b i, b < B → w.cell? ⟨b, i, none⟩ = a.cell? ⟨b, i, none⟩ := fun _ _ hb => h.cell hb
theorem below_frozenz {B : Nat} {a w : World} (h : Below B a w) : ∀ b i, b < B → w.frozen? ⟨b, i, none⟩ = a.frozen? ⟨b, i, none⟩ := fun b i hb => by
  simp only [World.frozen?, h.block b hb]
theorem KidsAt.shape {B : Nat} {w : World} {v : Value} {ps : List Int} {L : List Kc} (h : KidsAt B w v ps L) : ∃ p q, v = .agg #[p, q] := by
  obtain ⟨p, q, e, _⟩ := h.is; exact ⟨p, q, e⟩
/-- What region 4 leaves: a block whose cells are the Kids. -/
def Fin4 (w : World) (v : Value) : Prop := ∃ b vp vk L, v = .pointer (some ⟨b, 0, none⟩) ∧ b < w.heap.size ∧ w.cell? ⟨b, 0, none⟩ = some vp ∧ w.cell? ⟨b, 1, none⟩ = some vk ∧ KidsAt w.heap.size w (.agg #[vp, vk]) ex3.ps L ∧ keysOf L = ex3.ks
theorem fin_alloc {w : World} {p q : Value} {L : List Kc} (h : KidsAt w.heap.size w (.agg #[p, q]) ex3.ps L) (hL : keysOf L = ex3.ks) : Fin4 (w.alloc (.cells #[p, q] 26)) (.pointer (some ⟨w.heap.size, 0, none⟩)) :=
  ⟨w.heap.size, p, q, L, rfl, by simp, ((KBox.new w p q).cells).1, ((KBox.new w p q).cells).2, h.here (below_new _ _), hL⟩
theorem own_off {w : World} {base e n b i : Nat} {v u : Value} {xs : List Value} (h : w.ownsRow base e 1 v n xs) (hb : b < base) : (w.setCell ⟨b, i, none⟩ u).ownsRow base e 1 v n xs :=
  own_same h fun k hk _ => heap_set_other u (by have := (own_type h k hk).2.1; omega)
theorem NewKids.off {base b i : Nat} {w : World} {v u : Value} {d : Kd} (h : NewKids base w v d) (hb : b < base) : NewKids base (w.setCell ⟨b, i, none⟩ u) v d := by
  obtain ⟨vp, vk, F, e, h1, h2, h3⟩ := h.is
  exact ⟨vp, vk, F, e, ⟨own_off h1.own hb⟩, ⟨own_off h2.own hb, fun x hx => ⟨own_off (h2.keys x hx).own hb, (h2.keys x hx).short⟩, h2.apart⟩, h3⟩
theorem fin_set {w : World} {b base : Nat} {p q x y : Value} (hn : NewKids base w (.agg #[p, q]) ex3) (hx : KBox w b x y) (hbb : b < base) : Fin4 ((w.setCell ⟨b, 0, none⟩ p).setCell ⟨b, 1, none⟩ q) (.pointer (some ⟨b, 0, none⟩)) := by
  obtain ⟨L, h1, h2⟩ := ((hn.off (i := 0) (u := p) hbb).off (i := 1) (u := q) hbb).at (by decide) (by decide) (by decide)
  exact ⟨b, p, q, L, rfl, (hx.put p q).lt, ((hx.put p q).cells).1, ((hx.put p q).cells).2, h1, h2⟩
theorem kbox_second (w : World) (o : Obj) : KBox ((w.alloc o).alloc (.cells #[.slice none 0 0, .slice none 0 0] 26)) (w.heap.size + 1) (.slice none 0 0) (.slice none 0 0) := by
  have := KBox.new (w.alloc o) (.slice none 0 0) (.slice none 0 0)
  simpa using this
theorem KBox.drewb {w : World} {b : Nat} {x y : Value} (h : KBox w b x y) : KBox w.drew b x y := ⟨h.row⟩

theorem below_chain {n : Nat} {a w w' : World} (h : Below w.heap.size w w') (hz : n ≤ w.heap.size) (hc : ∀ b i, b < n → w.cell? ⟨b, i, none⟩ = a.cell? ⟨b, i, none⟩) : ∀ b i, b < n → w'.cell? ⟨b, i, none⟩ = a.cell? ⟨b, i, none⟩ := fun b i hb => (h.cell (show (⟨b, i, none⟩ : Addr).block < w.heap.size from Nat.lt_of_lt_of_le hb hz)).trans (hc b i hb)
theorem below_chainf {n : Nat} {a w w' : World} (h : Below w.heap.size w w') (hz : n ≤ w.heap.size) (hc : ∀ b i, b < n → w.frozen? ⟨b, i, none⟩ = a.frozen? ⟨b, i, none⟩) : ∀ b i, b < n → w'.frozen? ⟨b, i, none⟩ = a.frozen? ⟨b, i, none⟩ := fun b i hb => (below_frozenz h b i (Nat.lt_of_lt_of_le hb hz)).trans (hc b i hb)
theorem ints_block {w : World} {g n : Nat} {C : Array Value} {ps : List Int} (h : w.heap[g]? = some (.cells C 3 (0, 0))) (hC : C = (ps.map encI).toArray) (hn : ps.length = n) (hl : n ≤ 100) (hf : ∀ p ∈ ps, -9223372036854775808 ≤ p ∧ p ≤ 9223372036854775807) : IntsAt w.heap.size w (.slice (some ⟨g, 0, none⟩) n n) ps := by
  subst hC hn
  refine ⟨⟨_, _, by rw [List.length_map], by rw [List.length_map]; exact Nat.le_refl _, fun h => (by cases h), fun j u hj => ⟨_, 0, rfl, (Array.getElem?_eq_some_iff.1 h).1, ?_⟩⟩, by omega, hf⟩
  rw [Nat.zero_add, row_cell h]
  simpa using hj
theorem alloc_two (w : World) (o o' : Obj) : ((w.alloc o).alloc o').heap[w.heap.size + 1]? = some o' := by
  have := heap_alloc_last (w.alloc o) o'
  simpa using this
theorem below_two (w : World) (o : Obj) (g : Nat) (hg : g < w.heap.size) : (w.alloc o).heap[g]? = w.heap[g]? := (below_new w o).block g hg

set_option maxHeartbeats 3200000 in
set_option maxRecDepth 100000 in
theorem alive_any (w : World) : Calls Try.prog 9 #[] w fun e w' => e = .returned (.bool true) ∧ Below w.heap.size w w' := by
  go_enter Try.func9, Try.ntmps9
  go_wp2_with fail
  refine (kids_lit w [5, 9, 4] #[.int .i64 5, .int .i64 9, .int .i64 4] 3 [99, 102] rfl rfl (by decide) (by decide) (by decide)).mono ?_
  rintro e w1 ⟨v1, rfl, ⟨L1, hk1, hL1⟩, hb1⟩
  obtain ⟨vp1, vk1, rfl, hp1, hq1⟩ := hk1.is
  obtain ⟨a1, c1, rfl⟩ := hp1.form
  obtain ⟨a2, c2, rfl⟩ := hq1.form
  have HB1 : Hid (Below w.heap.size w w1) := hb1
  have HL1 : Hid (kd [5, 9, 4] L1 = ex1) := by rw [Hid, kd, hL1]; rfl
  have HLL : Hid (L1.length = 2) := by have := congrArg List.length hL1; rw [keysOf_length] at this; exact this
  obtain ⟨W1, hW1⟩ : ∃ W1, W1 = w1.alloc (.cells #[.slice a1 3 c1, .slice a2 L1.length c2] 26) := ⟨_, rfl⟩
  have hbw : Below w1.heap.size w1 W1 := by rw [hW1]; exact below_new _ _
  have HBW : Hid (Below w.heap.size w W1) := hb1.trans (hbw.mono hb1.size)
  have HX : Hid (KBox W1 w1.heap.size (.slice a1 3 c1) (.slice a2 L1.length c2)) := by rw [hW1]; exact KBox.new _ _ _
  have HKI : Hid (∀ W', Below W1.heap.size W1 W' → KidsAt W'.heap.size W' (.agg #[.slice a1 3 c1, .slice a2 L1.length c2]) [5, 9, 4] L1) := fun W' hb => (hk1.here hbw).here hb
  have HE := encode_any (z := 512) (HKI.out W1 (Below.refl _ _))
  rw [HL1.out, ex1_ok, if_pos rfl, ex1_enc] at HE
  clear hk1 hp1 hq1 hb1 hbw hL1
  go_wp2_with fail
  rw [← hW1]
  clear hW1
  refine HE.mono ?_
  rintro e w2 ⟨v2, rfl, hk2, hb2⟩
  obtain ⟨ab, nb, cb, e2⟩ := hk2.shape
  subst e2
  have HB2 : Hid (Below W1.heap.size W1 w2) := hb2
  have HK2 : Hid (KeyAt w2 (.slice ab nb cb) exB) := hk2.at
  have HD := decode_any (z := 512) HK2.out
  rw [ex1_decE, ex1_decD] at HD
  clear HE hb2 hk2
  go_wp2_with fail
  refine HD.mono ?_
  rintro e w3 ⟨v3, rfl, hn3, hb3⟩
  obtain ⟨L3, hk3, hL3⟩ := hn3.at (by decide) (by decide) (by decide)
  obtain ⟨vp3, vk3, rfl, hp3, hq3⟩ := hk3.is
  obtain ⟨a5, c5, rfl⟩ := hp3.form
  obtain ⟨a6, c6, rfl⟩ := hq3.form
  have HB3 : Hid (Below W1.heap.size W1 w3) := HB2.out.trans (hb3.mono HB2.out.size)
  have HK3 : Hid (KeyAt w3 (.slice ab nb cb) exB) := HK2.out.here hb3
  have HL3 : Hid (kd ex1.ps L3 = ex1) := by rw [Hid, kd, hL3]
  obtain ⟨W3, hW3⟩ : ∃ W3, W3 = w3.alloc (.cells #[.slice a5 ex1.ps.length c5, .slice a6 L3.length c6] 26) := ⟨_, rfl⟩
  have hbw3 : Below w3.heap.size w3 W3 := by rw [hW3]; exact below_new _ _
  have HBW3 : Hid (Below W1.heap.size W1 W3) := HB3.out.trans (hbw3.mono HB3.out.size)
  have HX3 : Hid (KBox W3 w3.heap.size (.slice a5 ex1.ps.length c5) (.slice a6 L3.length c6)) := by rw [hW3]; exact KBox.new _ _ _
  have HKI3 : Hid (∀ W', Below W3.heap.size W3 W' → KidsAt W'.heap.size W' (.agg #[.slice a5 ex1.ps.length c5, .slice a6 L3.length c6]) ex1.ps L3) := fun W' hb => (hk3.here hbw3).here hb
  have HK3' : Hid (KeyAt W3 (.slice ab nb cb) exB) := HK3.out.here hbw3
  clear HD hn3 hk3 hp3 hq3 hb3 hbw3 hL3 HK3 HK2
  obtain ⟨x0, x1⟩ := (HX.out.here HBW3.out).cells
  go_upto_region 4 with fail
  rw [← hW3]
  clear hW3
  have HKD : Hid (∀ W' g, Below W3.heap.size W3 W' → W'.heap[g]? = some (.cells #[.int .i64 7, .int .i64 8] 3 (0, 0)) → Calls Try.prog 29 #[.string ⟨#[100]⟩, .slice (some ⟨g, 0, none⟩) 2 2] W' fun r w' => ∃ v' L, r = .returned v' ∧ KidsAt w'.heap.size w' v' ex2.ps L ∧ keysOf L = ex2.ks ∧ Below W'.heap.size W' w' ∧ Below W3.heap.size W3 w') := fun W' g hb hg =>
    (kids_any (ps := ex2.ps) (bs := [100]) (ints_block hg (ps := ex2.ps) rfl rfl (by decide) (by decide)) (by decide)).mono fun r w' ⟨v', L, h1, h2, h3, h4⟩ => ⟨v', L, h1, h2, h3, h4, hb.trans (h4.mono hb.size)⟩
  have HRE : Hid (∀ W4 W' v L, Below W4.heap.size W4 W' → Below W3.heap.size W3 W4 → KidsAt W'.heap.size W' v ex2.ps L → keysOf L = ex2.ks → Calls Try.prog 23 #[.agg #[.slice a1 3 c1, .slice a2 L1.length c2], .int .i64 1, .int .i64 2, v] W' fun r w' => ∃ v', r = .returned (.tuple #[v', .int .i64 0]) ∧ NewKids W'.heap.size w' v' ex3 ∧ Below W'.heap.size W' w' ∧ Below W4.heap.size W4 w') := fun W4 W' v L hb4 hb0 hk hL => by
    have hb := hb0.trans (hb4.mono hb0.size)
    have hll : L.length = 1 := by rw [← keysOf_length, hL]; rfl
    have := replace_any (i := 1) (j := 2) (HKI.out W' (HBW3.out.trans (hb.mono HBW3.out.size))) hk (by decide) (by rw [HLL.out, hll]; decide)
    rw [HL1.out, show kd ex2.ps L = ex2 by rw [kd, hL], ex_replE, ex_replD] at this
    exact this.mono fun r w' ⟨v', h1, h2, h3⟩ => ⟨v', h1, h2, h3, hb4.trans (h3.mono hb4.size)⟩
  have hx3 := HX.out.here HBW3.out
  have xa0 : ∀ o, (W3.alloc o).cell? ⟨w1.heap.size, 0, none⟩ = some (.slice a1 3 c1) := fun o => ((hx3.here (below_new _ _)).cells).1
  have xa1 : ∀ o, (W3.alloc o).cell? ⟨w1.heap.size, 1, none⟩ = some (.slice a2 L1.length c2) := fun o => ((hx3.here (below_new _ _)).cells).2
  have xb0 : ∀ o o', ((W3.alloc o).alloc o').cell? ⟨w1.heap.size, 0, none⟩ = some (.slice a1 3 c1) := fun o o' => (((hx3.here (below_new _ _)).here (below_new _ _)).cells).1
  have xb1 : ∀ o o', ((W3.alloc o).alloc o').cell? ⟨w1.heap.size, 1, none⟩ = some (.slice a2 L1.length c2) := fun o o' => (((hx3.here (below_new _ _)).here (below_new _ _)).cells).2
  clear hx3
  go_cut [6, 7] (fun s6 s7 wx => s7 = .int .i64 0 ∧ Fin4 wx s6 ∧ Below W3.heap.size W3 wx)
  case first =>
    go_region_with (first
      | (go_at_call 29
         go_loud (
           refine (HKD.out _ _ (by first | exact ((Below.refl _ _).alloc (Nat.le_refl _) _).drew | exact (((Below.refl _ _).alloc (Nat.le_refl _) _).alloc (by simp) _).drew) (by first | exact heap_alloc_last W3 _ | exact (below_two (W3.alloc _) _ _ (by simp)).trans (heap_alloc_last W3 _) | exact alloc_two _ _ _)).mono ?_
           rintro e w4 ⟨v4, L4, rfl, hk4, hL4, hb4, hb4'⟩
           have hc4 := below_cellz hb4
           have hf4 := below_frozenz hb4
           have hz4 := hb4.size
           have HP4 : Hid _ := hb4
           have HC4 : Hid _ := hc4
           have HF4 : Hid _ := hf4
           have HZ4 : Hid _ := hz4
           have HB4 : Hid (Below W3.heap.size W3 w4) := hb4'
           have HK4 : Hid (KidsAt w4.heap.size w4 v4 ex2.ps L4 ∧ keysOf L4 = ex2.ks) := ⟨hk4, hL4⟩
           have hx4 := HX.out.here (HBW3.out.trans (hb4'.mono HBW3.out.size))
           obtain ⟨r0, r1⟩ := hx4.cells
           have ra0 : ∀ o, (w4.alloc o).cell? ⟨w1.heap.size, 0, none⟩ = some (.slice a1 3 c1) := fun o => ((hx4.here (below_new _ _)).cells).1
           have ra1 : ∀ o, (w4.alloc o).cell? ⟨w1.heap.size, 1, none⟩ = some (.slice a2 L1.length c2) := fun o => ((hx4.here (below_new _ _)).cells).2
           obtain ⟨p4, q4, e4⟩ := hk4.shape
           subst e4
           clear hk4 hL4 hb4 hb4' hx4 hz4))
      | (go_at_call 23
         go_loud (
           refine (HRE.out w4 _ _ L4 (by first | exact Below.refl _ _ | exact below_new _ _) HB4.out (by first | exact HK4.out.1 | exact HK4.out.1.here (below_new _ _)) HK4.out.2).mono ?_
           rintro e w5 ⟨v5, rfl, hn5, hb5, hb5'⟩
           have hc5 := below_cellz hb5
           have hf5 := below_frozenz hb5
           have hc5' := below_chain hb5' HZ4.out HC4.out
           have hf5' := below_chainf hb5' HZ4.out HF4.out
           have HB5 : Hid (Below W3.heap.size W3 w5) := HB4.out.trans (hb5'.mono HB4.out.size)
           have HS5 : Hid _ := hb5.size
           have HP5 : Hid _ := hb5
           have HB45 : Hid (Below w4.heap.size w4 w5) := hb5'
           have HS4 : Hid (w4.heap.size ≤ w5.heap.size) := hb5'.size
           obtain ⟨L5, hk5, hL5⟩ := hn5.at (by decide) (by decide) (by decide)
           obtain ⟨vp5, vk5, e5, hp5, hq5⟩ := hk5.is
           obtain ⟨a7, c7, rfl⟩ := hp5.form
           obtain ⟨a8, c8, rfl⟩ := hq5.form
           subst e5
           have HK5 : Hid (KidsAt w5.heap.size w5 (.agg #[.slice a7 ex3.ps.length c7, .slice a8 L5.length c8]) ex3.ps L5 ∧ keysOf L5 = ex3.ks) := ⟨hk5, hL5⟩
           have HN5 : Hid _ := hn5
           clear hk5 hL5 hb5 hb5' hp5 hq5 hn5)))
    all_goals
      go_wp2_with fail
      go_meet
      first
        | exact ⟨rfl, fin_alloc HK5.out.1 HK5.out.2, HB5.out.alloc HB5.out.size _⟩
        | exact ⟨rfl, fin_set HN5.out ((KBox.new w4 (.slice none 0 0) (.slice none 0 0)).here HP5.out) (by have h1 := HZ4.out; have h2 := HB4.out.size; have h3 := HS4.out; have h4 := HS5.out; simp at h1 h4 ⊢; try omega), (Below.setCell (p := ⟨_, 0, none⟩) HB5.out (by have h2 := HB4.out.size; simp; try omega) _).setCell (p := ⟨_, 1, none⟩) (by have h2 := HB4.out.size; simp; try omega) _⟩
        | exact ⟨rfl, fin_set HN5.out ((((KBox.new W3 (.slice none 0 0) (.slice none 0 0)).here (below_new _ _)).drewb.here HP4.out).here HB45.out) (by have h1 := HZ4.out; have h2 := HB4.out.size; have h3 := HS4.out; have h4 := HS5.out; simp at h1 h4 ⊢; try omega), (Below.setCell (p := ⟨_, 0, none⟩) HB5.out (by have h2 := HB4.out.size; simp; try omega) _).setCell (p := ⟨_, 1, none⟩) (by have h2 := HB4.out.size; simp; try omega) _⟩
        | exact ⟨rfl, fin_set HN5.out (((kbox_second W3 _).drewb.here HP4.out).here HB45.out) (by have h1 := HZ4.out; have h2 := HB4.out.size; have h3 := HS4.out; have h4 := HS5.out; simp at h1 h4 ⊢; try omega), (Below.setCell (p := ⟨_, 0, none⟩) HB5.out (by have h2 := HB4.out.size; simp; try omega) _).setCell (p := ⟨_, 1, none⟩) (by have h2 := HB4.out.size; simp; try omega) _⟩
  case rest =>
    obtain ⟨rfl, hf4, hbc⟩ := hcut
    obtain ⟨b6, vp6, vk6, L6, rfl, hlt6, c60, c61, hk6, hL6⟩ := hf4
    obtain ⟨vp', vk', e6, hp6, hq6⟩ := hk6.is
    cases e6
    obtain ⟨a7, c7, rfl⟩ := hp6.form
    obtain ⟨a8, c8, rfl⟩ := hq6.form
    obtain ⟨W6, hW6⟩ : ∃ W6, W6 = wc := ⟨_, rfl⟩
    rw [← hW6] at hlt6 c60 c61 hk6 hbc
    rw [← hW6]
    have HB6 : Hid (Below W3.heap.size W3 W6) := hbc
    have HLT6 : Hid (b6 < W6.heap.size) := hlt6
    have HC60 : Hid (W6.cell? ⟨b6, 0, none⟩ = some (.slice a7 ex3.ps.length c7)) := c60
    have HC61 : Hid (W6.cell? ⟨b6, 1, none⟩ = some (.slice a8 L6.length c8)) := c61
    have HK6 : Hid (KidsAt W6.heap.size W6 (.agg #[.slice a7 ex3.ps.length c7, .slice a8 L6.length c8]) ex3.ps L6) := hk6
    have HL6 : Hid (kd ex3.ps L6 = ex3) := by rw [Hid, kd, hL6]
    have HBA : Hid (∀ W', Below W6.heap.size W6 W' → Below W1.heap.size W1 W') := fun W' h => (HBW3.out.trans (HB6.out.mono HBW3.out.size)).trans (h.mono (HBW3.out.trans (HB6.out.mono HBW3.out.size)).size)
    obtain ⟨y0, y1⟩ := (HX.out.here (HBA.out W6 (Below.refl _ _))).cells
    have hsp := span_any (i := 3) (HKI.out W6 (HBA.out W6 (Below.refl _ _))) (RangeAt.mk (w := W6) (v := .agg #[.slice none 0 0, .slice none 0 0, .bool true]) (r := ⟨[], [], true⟩) ⟨_, _, rfl, KeyAt.nil _, KeyAt.nil _⟩) (by decide)
    rw [HL1.out, ex_span] at hsp
    clear hk6 hL6 hp6 hq6 hbc hlt6 c60 c61 hW6 xa0 xa1 xb0 xb1 x0 x1 HKD HRE
    go_upto_region 5 with fail
    go_wp2_with fail
    refine hsp.mono ?_
    rintro e w7 ⟨v7, rfl, hn7, hb7⟩
    obtain ⟨b1, d1, b2, d2, e7⟩ := hn7.slices
    subst e7
    have HB7 : Hid (Below W6.heap.size W6 w7) := hb7
    obtain ⟨W7, hW7⟩ : ∃ W7, W7 = w7.alloc (.cells #[.slice b1 (spanR ex1 ⟨[], [], true⟩ 3).lo.length d1, .slice b2 (spanR ex1 ⟨[], [], true⟩ 3).hi.length d2, .bool (spanR ex1 ⟨[], [], true⟩ 3).all] 47) := ⟨_, rfl⟩
    have HBW7 : Hid (Below W6.heap.size W6 W7) := by rw [hW7]; exact hb7.trans ((below_new _ _).mono hb7.size)
    clear hsp hn7 hb7 y0 y1
    go_upto_region 6 with fail
    rw [← hW7]
    clear hW7
    have HA7 : Hid (∀ W', Below W7.heap.size W7 W' → Below W6.heap.size W6 W') := fun W' h => HBW7.out.trans (h.mono HBW7.out.size)
    have HB37 : Hid (∀ W', Below W7.heap.size W7 W' → Below W3.heap.size W3 W') := fun W' h => HB6.out.trans ((HA7.out W' h).mono HB6.out.size)
    have HS1 : Hid (∀ W', Below W7.heap.size W7 W' → Calls Try.prog 27 #[.agg #[.slice a5 ex1.ps.length c5, .slice a6 L3.length c6], .agg #[.slice a1 3 c1, .slice a2 L1.length c2]] W' fun r w' => r = .returned (.bool true) ∧ Below W'.heap.size W' w') := fun W' hb => by
      have := same_any (HKI3.out W' (HB37.out W' hb)) (HKI.out W' (HBA.out W' (HA7.out W' hb)))
      rw [HL3.out, HL1.out, decide_eq_true rfl] at this
      exact this
    have HKD2 : Hid (∀ W' g, W'.heap[g]? = some (.cells #[.int .i64 5, .int .i64 7, .int .i64 8, .int .i64 4] 3 (0, 0)) → Calls Try.prog 29 #[.string ⟨#[99, 100, 102]⟩, .slice (some ⟨g, 0, none⟩) 4 4] W' fun r w' => ∃ v' L, r = .returned v' ∧ KidsAt w'.heap.size w' v' ex3.ps L ∧ keysOf L = ex3.ks ∧ Below W'.heap.size W' w') := fun W' g hg =>
      kids_any (ps := ex3.ps) (bs := [99, 100, 102]) (ints_block hg (ps := ex3.ps) rfl rfl (by decide) (by decide)) (by decide)
    have HS2 : Hid (∀ W' v L, Below W7.heap.size W7 W' → KidsAt W'.heap.size W' v ex3.ps L → keysOf L = ex3.ks → Calls Try.prog 27 #[.agg #[.slice a7 ex3.ps.length c7, .slice a8 L6.length c8], v] W' fun r w' => r = .returned (.bool true) ∧ Below W'.heap.size W' w') := fun W' v L hb hk hL => by
      have := same_any (HK6.out.here (HA7.out W' hb)) hk
      rw [HL6.out, show kd ex3.ps L = ex3 by rw [kd, hL], decide_eq_true rfl] at this
      exact this
    have HCH : Hid (∀ W' v, Below W7.heap.size W7 W' → KeyAt W' v [99] → Calls Try.prog 30 #[.agg #[.slice a1 3 c1, .slice a2 L1.length c2], v] W' fun r w' => r = .returned (.int .i64 1) ∧ Below W'.heap.size W' w') := fun W' v hb hk => by
      have := child_any (HKI.out W' (HBA.out W' (HA7.out W' hb))) hk
      rw [show keysOf L1 = ex1.ks from congrArg Kd.ks HL1.out, ex_child] at this
      exact this
    have HCELL : Hid (∀ W', Below W7.heap.size W7 W' → W'.cell? ⟨w1.heap.size, 0, none⟩ = some (.slice a1 3 c1) ∧ W'.cell? ⟨w1.heap.size, 1, none⟩ = some (.slice a2 L1.length c2) ∧ W'.cell? ⟨w3.heap.size, 0, none⟩ = some (.slice a5 ex1.ps.length c5) ∧ W'.cell? ⟨w3.heap.size, 1, none⟩ = some (.slice a6 L3.length c6) ∧ W'.cell? ⟨b6, 0, none⟩ = some (.slice a7 ex3.ps.length c7) ∧ W'.cell? ⟨b6, 1, none⟩ = some (.slice a8 L6.length c8)) := fun W' hb => by
      obtain ⟨q0, q1⟩ := (HX.out.here (HBA.out W' (HA7.out W' hb))).cells
      obtain ⟨q2, q3⟩ := (HX3.out.here (HB37.out W' hb)).cells
      have h6 := HA7.out W' hb
      exact ⟨q0, q1, q2, q3, (h6.cell (show (⟨b6, 0, none⟩ : Addr).block < _ from HLT6.out)).trans HC60.out, (h6.cell (show (⟨b6, 1, none⟩ : Addr).block < _ from HLT6.out)).trans HC61.out⟩
    have HCV : Hid (∀ W', Below W7.heap.size W7 W' → Sem.run Try.prog (convert 27 9 (.slice ab nb cb)) W' = .ok (.string (strB exB)) W') := fun W' hb => conv_key (HK3'.out.here (HB37.out W' hb))
    have HFINAL : Hid (∀ W', Below W7.heap.size W7 W' → Below w.heap.size w W') := fun W' hb => HBW.out.trans ((HBA.out W' (HA7.out W' hb)).mono HBW.out.size)
    have hcv := const_any
    have sq : ((strB exB).toList == [0, 3, 0, 0, 0, 5, 0, 0, 0, 9, 0, 0, 0, 4, 0, 1, 99, 0, 1, 102]) = true := by
      rw [ByteArray.toList_eq]; simp [strB, exB]
    generalize strB exB = S at HCV sq
    obtain ⟨u0, u1, u2, u3, u4, u5⟩ := HCELL.out W7 (Below.refl _ _)
    clear HKI HKI3 HK6 HL6 HL3 HL1
    go_region_held_law (fun W' => W'.cell? ⟨w1.heap.size, 0, none⟩ = some (.slice a1 3 c1) ∧ W'.cell? ⟨w1.heap.size, 1, none⟩ = some (.slice a2 L1.length c2) ∧ W'.cell? ⟨w3.heap.size, 0, none⟩ = some (.slice a5 ex1.ps.length c5) ∧ W'.cell? ⟨w3.heap.size, 1, none⟩ = some (.slice a6 L3.length c6) ∧ W'.cell? ⟨b6, 0, none⟩ = some (.slice a7 ex3.ps.length c7) ∧ W'.cell? ⟨b6, 1, none⟩ = some (.slice a8 L6.length c8)) (first | go_keep | exact ⟨by assumption, by assumption, by assumption, by assumption, by assumption, by assumption⟩ | exact HCELL.out _ (by first | exact HB8.out.alloc HB8.out.size _ | exact HB10.out.alloc HB10.out.size _ | exact HB10.out.alloc HB10.out.size _))
      (first
        | (go_at_call_of 27 (Value.agg #[Value.slice a5 ex1.ps.length c5, Value.slice a6 L3.length c6])
           refine (HS1.out _ (by first | exact (Below.refl _ _).drew | exact Below.refl _ _)).mono ?_
           rintro e w8 ⟨rfl, hb8⟩
           have HB8 : Hid (Below W7.heap.size W7 w8) := (show Below W7.heap.size W7 W7.drew from (Below.refl _ _).drew).trans hb8
           obtain ⟨t0, t1, t2, t3, t4, t5⟩ := HCELL.out w8 HB8.out
           clear hb8)
        | (go_at_call 29
           refine (HKD2.out _ _ (by exact heap_alloc_last _ _)).mono ?_
           rintro e w9 ⟨v9, L9, rfl, hk9, hL9, hb9⟩
           have HB9 : Hid (Below W7.heap.size W7 w9) := (HB8.out.alloc HB8.out.size _).trans (hb9.mono (by have := HB8.out.size; simp; omega))
           have HK9 : Hid (KidsAt w9.heap.size w9 v9 ex3.ps L9 ∧ keysOf L9 = ex3.ks) := ⟨hk9, hL9⟩
           obtain ⟨p9, q9, e9⟩ := hk9.shape
           subst e9
           obtain ⟨t0, t1, t2, t3, t4, t5⟩ := HCELL.out w9 HB9.out
           clear hk9 hL9 hb9)
        | (go_at_call 27
           refine (HS2.out w9 _ L9 HB9.out HK9.out.1 HK9.out.2).mono ?_
           rintro e w10 ⟨rfl, hb10⟩
           have HB10 : Hid (Below W7.heap.size W7 w10) := HB9.out.trans (hb10.mono HB9.out.size)
           obtain ⟨t0, t1, t2, t3, t4, t5⟩ := HCELL.out w10 HB10.out
           clear hb10)
        | (go_at_call 30
           refine (HCH.out _ _ (HB10.out.alloc HB10.out.size _) (key_block (heap_alloc_last _ _) (lits_at [99]) 1 1 rfl (Nat.le_refl _) (by decide))).mono ?_
           rintro e w11 ⟨rfl, hb11⟩
           have HB11 : Hid (Below W7.heap.size W7 w11) := (HB10.out.alloc HB10.out.size _).trans (hb11.mono (by have := HB10.out.size; simp; omega))
           obtain ⟨t0, t1, t2, t3, t4, t5⟩ := HCELL.out w11 HB11.out
           have cv := HCV.out w11 HB11.out
           clear hb11))
    all_goals
      go_wp2
      go_ret
      exact ⟨rfl, HFINAL.out _ HB11.out⟩
end Go.Proofs.Ytaehchijeinloaa
