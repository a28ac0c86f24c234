/- inside: whether all that a message says lies within the Span of its child. -/
import Derived.Test.YtpmcpomomagkhaaHomes
import Derived.Test.YtpmcpomomagkhaaLits
namespace Go.Proofs.Ytpmcpomomagkhaa
open Go.RowKit

set_option maxRecDepth 100000 in
theorem equal_any {w : World} {u v : Value} {x y : Key} (hu : KeyAt w u x) (hv : KeyAt w v y) : Calls Try.prog 61 #[u, v] w fun r w' => r = .returned (.bool (decide (x = y))) ∧ w' = w := by
  have h1 := conv_key hu
  have h2 := conv_key hv
  obtain ⟨a1, c1, e1⟩ := hu.in.form
  obtain ⟨a2, c2, e2⟩ := hv.in.form
  subst e1 e2
  have HE : Hid (((strB x).toList == (strB y).toList) = decide (x = y)) := strB_eq x y
  clear hu hv
  go_enter Try.func61, Try.ntmps61
  go_wp2
  go_ret
  exact ⟨ret_bool HE.out, rfl⟩

/-- A node that is worked on, in memory. -/
structure PartsAt (w : World) (v1 v2 v3 v4 : Value) (ps : List Int) (K : List Br.Kc) (M : List Mt) : Prop where
  pages : Br.IntsAt w.heap.size w v1 ps
  keys : Br.KeysAt w.heap.size w v2 K
  msgs : MsgsAt w.heap.size w v3 M
  home : Br.IntsAt w.heap.size w v4 (homes (Br.kd ps K) (msOf M))
theorem PartsAt.here {w w' : World} {v1 v2 v3 v4 : Value} {ps : List Int} {K : List Br.Kc} {M : List Mt} (h : PartsAt w v1 v2 v3 v4 ps K M) (hb : Below w.heap.size w w') : PartsAt w' v1 v2 v3 v4 ps K M := ⟨h.pages.here hb, h.keys.here hb, h.msgs.here hb, h.home.here hb⟩
/-- What the region with Span leaves. -/
structure InEnd (W wx : World) (s : Value) (r : Rg) : Prop where
  is : ∃ b vh, s = .pointer (some ⟨b, 0, none⟩) ∧ wx.cell? ⟨b, 1, none⟩ = some vh ∧ KeyAt wx vh r.hi ∧ Below W.heap.size W wx
theorem in_alloc {W w3 : World} {base : Nat} {x y z : Value} {r : Rg} (hn : Br.NewRange base w3 (.agg #[x, y, z]) r) (hb : Below W.heap.size W w3) : InEnd W (w3.alloc (.cells #[x, y, z] 102)) (.pointer (some ⟨w3.heap.size, 0, none⟩)) r := by
  obtain ⟨v1, v2, e, h1, h2, h3⟩ := hn.is
  cases e
  exact ⟨_, _, rfl, ((Br.Box.new w3 _ _ _).cells).2.1, (ofBr h2.at).here (below_new _ _), hb.alloc hb.size _⟩
theorem in_set {W w3 : World} {base b : Nat} {x y z p q s : Value} {r : Rg} (hn : Br.NewRange base w3 (.agg #[x, y, z]) r) (hx : Br.Box w3 b p q s) (hW : W.heap.size ≤ b) (hb : Below W.heap.size W w3) : InEnd W (((w3.setCell ⟨b, 0, none⟩ x).setCell ⟨b, 1, none⟩ y).setCell ⟨b, 2, none⟩ z) (.pointer (some ⟨b, 0, none⟩)) r := by
  have h4 := hn.put3 (base' := base) hx (Nat.le_refl _) x y z
  obtain ⟨v1, v2, e, h1, h2, h3⟩ := h4.is
  cases e
  exact ⟨_, _, rfl, (Br.put3_box (x' := x) (y' := y) (z' := .bool r.all) hx).cells.2.1, ofBr h2.at, Br.put3_below hb hW _ _ _⟩
theorem below_cells {B : Nat} {a w : World} (h : Below B a w) : ∀ b i, b < B → w.cell? ⟨b, i, none⟩ = a.cell? ⟨b, i, none⟩ := fun _ _ hb => h.cell hb
theorem below_frozen {B : Nat} {a w : World} (h : Below B a w) : ∀ b i, b < B → w.frozen? ⟨b, i, none⟩ = a.frozen? ⟨b, i, none⟩ := fun b i hb => by
  simp only [World.frozen?, h.block b hb]
theorem home_le (d : Kd) (m : Ms) : homeN d m ≤ d.ks.length := List.findIdx_le_length

set_option maxHeartbeats 3200000 in
set_option maxRecDepth 100000 in
theorem inside_any {w : World} {a1 a2 a3 a4 : Option Addr} {c1 c2 c3 c4 : Nat} {ps : List Int} {K : List Br.Kc} {M : List Mt} (h : PartsAt w (.slice a1 ps.length c1) (.slice a2 K.length c2) (.slice a3 M.length c3) (.slice a4 M.length c4) ps K M) {i : Nat} {e : Mt} (hi : M[i]? = some e) :
    Calls Try.prog 41 #[.agg #[.slice a1 ps.length c1, .slice a2 K.length c2, .slice a3 M.length c3, .slice a4 M.length c4], .int .i64 (i : Nat)] w fun r w' => r = .returned (.bool (insideN (Br.kd ps K) e.m)) ∧ Below w.heap.size w w' := by
  have hil := (List.getElem?_eq_some_iff.1 hi).1
  have hsh := h.msgs.short
  have hks := h.keys.short
  obtain ⟨W1, hW1⟩ : ∃ W1, W1 = w.alloc (.cells #[.slice a1 ps.length c1, .slice a2 K.length c2, .slice a3 M.length c3, .slice a4 M.length c4] 58) := ⟨_, rfl⟩
  have HB1 : Hid (Below w.heap.size w W1) := by rw [hW1]; exact below_new _ _
  have HX1 : Hid (PBox W1 w.heap.size (.slice a1 ps.length c1) (.slice a2 K.length c2) (.slice a3 M.length c3) (.slice a4 M.length c4)) := by rw [hW1]; exact PBox.new _ _ _ _ _
  obtain ⟨g, off, c', e1, k0, k1, k2, k3, k4⟩ := (h.msgs.here HB1.out).cells i e hi
  cases e1
  have hok := (h.msgs.here HB1.out).ok e (List.mem_of_getElem? hi)
  have hhg := homes_get (d := Br.kd ps K) (msOf_get hi)
  have hhl : homeN (Br.kd ps K) e.m ≤ K.length := by have := home_le (Br.kd ps K) e.m; rw [show (Br.kd ps K).ks = Br.keysOf K from rfl, Br.keysOf_length] at this; exact this
  obtain ⟨b1, d1, f1⟩ := hok.lo.form
  obtain ⟨b2, d2, f2⟩ := hok.hi.form
  obtain ⟨b3, d3, f3⟩ := hok.va.form
  obtain ⟨v1, v2, v3, m⟩ := e
  simp only at f1 f2 f3 k0 k1 k2 k3 k4 hhg hhl hok
  subst f1 f2 f3
  obtain ⟨W, hW⟩ : ∃ W, W = W1.alloc (.cells #[.int .u64 (m.st : Int), .int .i64 m.kd, .slice b1 m.lo.length d1, .slice b2 m.hi.length d2, .slice b3 m.va.length d3] 48) := ⟨_, rfl⟩
  have hs1 : W1.heap.size = w.heap.size + 1 := by rw [hW1]; simp
  have HB2 : Hid (Below W1.heap.size W1 W) := by rw [hW]; exact below_new _ _
  have HBW : Hid (Below w.heap.size w W) := HB1.out.trans (HB2.out.mono HB1.out.size)
  have HMB : Hid (MBox W (w.heap.size + 1) ⟨.slice b1 m.lo.length d1, .slice b2 m.hi.length d2, .slice b3 m.va.length d3, m⟩) := by rw [Hid, hW, ← hs1]; exact ⟨heap_alloc_last W1 _⟩
  obtain ⟨g4, o4, c4', e4, hc4⟩ := (h.home.here HBW.out).cell i _ hhg
  rw [homes_length, msOf_length] at e4
  cases e4
  obtain ⟨x0, x1, x2, x3⟩ := (HX1.out.here HB2.out).cells
  obtain ⟨p0, p1, p2, p3⟩ := HX1.out.cells
  obtain ⟨y0, y1, y2, y3, y4⟩ := HMB.out.cells
  simp only at y0 y1 y2 y3 y4
  have hiz : (i : Int) < (M.length : Int) := by omega
  have HH : Hid (KeyAt W (.slice b2 m.hi.length d2) m.hi) := (hok.hi.at (Nat.le_refl _)).here HB2.out
  have HLW : Hid (w.heap.size + 1 < W.heap.size) := by rw [Hid, hW]; simp [hs1]
  have HPA : Hid (PartsAt W (.slice a1 ps.length c1) (.slice a2 K.length c2) (.slice (some ⟨g, off, none⟩) M.length c3) (.slice (some ⟨g4, o4, none⟩) M.length c4) ps K M) := h.here HBW.out
  by_cases hk3 : m.kd = 3
  · have hkz : ((m.kd : Int) != 3) = false := by simp [hk3]
    have HSP : Hid (∀ W', Below W.heap.size W W' → Calls Try.prog 60 #[.agg #[.slice a1 ps.length c1, .slice a2 K.length c2], .agg #[.slice b1 m.lo.length d1, .slice b2 m.hi.length d2, .bool false], .int .i64 (homeN (Br.kd ps K) m : Nat)] W' fun r w' => ∃ v', r = .returned (.tuple #[v', .int .i64 (Br.spanE (Br.kd ps K) (homeN (Br.kd ps K) m : Nat) : Nat)]) ∧ Br.NewRange W'.heap.size w' v' (Br.spanR (Br.kd ps K) ⟨m.lo, m.hi, false⟩ (homeN (Br.kd ps K) m : Nat)) ∧ Below W'.heap.size W' w' ∧ Below W.heap.size W w') := fun W' hb =>
      (Br.span_any ⟨_, _, rfl, (HPA.out.pages).here hb, (HPA.out.keys).here hb⟩ (r := ⟨m.lo, m.hi, false⟩) (toBrR ⟨_, _, rfl, ((hok.lo.at (Nat.le_refl _)).here HB2.out).here hb, HH.out.here hb⟩) (by simp [Lit.wf, IntKind.min, IntKind.max, IntKind.bits, IntKind.signed]; omega)).mono fun r w' ⟨v', h1, h2, h3⟩ => ⟨v', h1, h2, h3, hb.trans (h3.mono hb.size)⟩
    have HIN : Hid (insideN (Br.kd ps K) m = decide ((Br.spanR (Br.kd ps K) ⟨m.lo, m.hi, false⟩ (homeN (Br.kd ps K) m : Nat)).hi = m.hi)) := by
      unfold Hid insideN; simp [hk3]
    clear hk3
    obtain ⟨H, hH⟩ : ∃ H : Nat, H = homeN (Br.kd ps K) m := ⟨_, rfl⟩
    rw [← hH] at HSP HIN hc4
    simp only
    rw [HIN.out]
    obtain ⟨R, hR⟩ : ∃ R, R = Br.spanR (Br.kd ps K) ⟨m.lo, m.hi, false⟩ (H : Nat) := ⟨_, rfl⟩
    rw [← hR] at HSP ⊢
    have hx2 := HX1.out.here HB2.out
    have HX2 : Hid (PBox W w.heap.size (.slice a1 ps.length c1) (.slice a2 K.length c2) (.slice (some ⟨g, off, none⟩) M.length c3) (.slice (some ⟨g4, o4, none⟩) M.length c4)) := hx2
    have hn1 := World.new_ne W _ x0
    have hn2 := World.new_ne W _ y2
    have hn3 := World.new_ne W _ hc4
    have xa0 : ∀ o, (W.alloc o).cell? ⟨w.heap.size, 0, none⟩ = some (.slice a1 ps.length c1) := fun o => ((hx2.here (below_new _ _)).cells).1
    have xa1 : ∀ o, (W.alloc o).cell? ⟨w.heap.size, 1, none⟩ = some (.slice a2 K.length c2) := fun o => ((hx2.here (below_new _ _)).cells).2.1
    have xa3 : ∀ o, (W.alloc o).cell? ⟨w.heap.size, 3, none⟩ = some (.slice (some ⟨g4, o4, none⟩) M.length c4) := fun o => ((hx2.here (below_new _ _)).cells).2.2.2
    have ya2 : ∀ o, (W.alloc o).cell? ⟨w.heap.size + 1, 2, none⟩ = some (.slice b1 m.lo.length d1) := fun o => ((HMB.out.here (below_new _ _)).cells).2.2.1
    have ya3 : ∀ o, (W.alloc o).cell? ⟨w.heap.size + 1, 3, none⟩ = some (.slice b2 m.hi.length d2) := fun o => ((HMB.out.here (below_new _ _)).cells).2.2.2.1
    have h4l := World.block_lt_of_cell? _ _ hc4
    have za : ∀ o, (W.alloc o).cell? ⟨g4, o4 + i, none⟩ = some (.int .i64 (H : Nat)) := fun o => ((below_new W o).cell (p := ⟨g4, o4 + i, none⟩) h4l).trans hc4
    clear h hok hhg hi hH hR HIN hx2
    go_enter Try.func41, Try.ntmps41
    go_upto_region 1 with fail
    rw [← hW1]
    clear hW1
    go_wp2_with fail
    rw [← hW]
    clear hW k0 k1 k2 k3 k4
    go_cut [6, 7] (fun s6 _ wx => InEnd W wx s6 R)
    case first =>
      go_region_held_law (fun W' => W'.cell? ⟨w.heap.size, 0, none⟩ = some (.slice a1 ps.length c1) ∧ W'.cell? ⟨w.heap.size, 1, none⟩ = some (.slice a2 K.length c2) ∧ W'.cell? ⟨w.heap.size, 3, none⟩ = some (.slice (some ⟨g4, o4, none⟩) M.length c4) ∧ W'.cell? ⟨w.heap.size + 1, 2, none⟩ = some (.slice b1 m.lo.length d1) ∧ W'.cell? ⟨w.heap.size + 1, 3, none⟩ = some (.slice b2 m.hi.length d2) ∧ W'.cell? ⟨g4, o4 + i, none⟩ = some (.int .i64 (H : Nat))) (first | go_keep | (refine ⟨?_, ?_, ?_, ?_, ?_, ?_⟩ <;> assumption))
        ((go_at_call 60
          refine (HSP.out _ (by first | exact (Below.refl _ _).drew | exact Below.refl _ _ | exact (below_new _ _).drew | exact below_new _ _)).mono ?_
          rintro e w3 ⟨v3, rfl, hn3, hb3, hb3'⟩
          obtain ⟨n1, m1, n2, m2, e3⟩ := hn3.slices
          subst e3
          have hc3 := below_cells hb3
          have hf3 := below_frozen hb3
          have HB3 : Hid _ := hb3
          have HN3 : Hid _ := hn3
          have HBW3 : Hid (Below W.heap.size W w3) := hb3'
          obtain ⟨q0, q1, _, q3⟩ := (HX2.out.here hb3').cells
          obtain ⟨_, _, r2, r3, _⟩ := (HMB.out.here hb3').cells
          have s4 : w3.cell? ⟨g4, o4 + i, none⟩ = some (.int .i64 (H : Nat)) := (hb3'.cell (p := ⟨g4, o4 + i, none⟩) h4l).trans hc4
          clear hn3 hb3 hb3'))
      all_goals
        go_wp2_with fail
        go_meet
        first
          | exact in_alloc HN3.out HBW3.out
          | exact in_set HN3.out (Br.Box.here (w := (W.alloc (.cells #[.slice none 0 0, .slice none 0 0, .bool false] 102)).drew) ⟨(Br.Box.new W (.slice none 0 0) (.slice none 0 0) (.bool false)).row⟩ HB3.out) (Nat.le_refl _) HBW3.out
          | exact in_set HN3.out (Br.Box.here (w := (W.alloc (.cells #[.slice none 0 0, .slice none 0 0, .bool false] 102))) ⟨(Br.Box.new W (.slice none 0 0) (.slice none 0 0) (.bool false)).row⟩ HB3.out) (Nat.le_refl _) HBW3.out
          | exact in_set HN3.out (Br.Box.here (w := (W.drew.alloc (.cells #[.slice none 0 0, .slice none 0 0, .bool false] 102))) ⟨(Br.Box.new W.drew (.slice none 0 0) (.slice none 0 0) (.bool false)).row⟩ HB3.out) (Nat.le_refl _) HBW3.out
    case rest =>
      obtain ⟨b, vh, rfl, hcv, hkv, hbx⟩ := hcut.is
      obtain ⟨_, _, _, r3, _⟩ := (HMB.out.here hbx).cells
      simp only at r3
      have HBX : Hid (Below w.heap.size w wc) := HBW.out.trans (hbx.mono HBW.out.size)
      have HEQ := equal_any hkv (HH.out.here hbx)
      clear hcut hkv hbx
      go_wp2_with fail
      refine HEQ.mono ?_
      rintro e w4 ⟨rfl, hw4⟩
      obtain rfl := hw4.symm
      go_wp2
      go_ret
      exact ⟨rfl, HBX.out⟩
  · have hkz : ((m.kd : Int) != 3) = true := by simp [hk3]
    have HIN : Hid (insideN (Br.kd ps K) m = true) := by
      unfold Hid insideN; simp [hk3]
    simp only
    rw [HIN.out]
    clear h hok hhg hi HIN hk3
    go_enter Try.func41, Try.ntmps41
    go_upto_region 1 with fail
    rw [← hW1]
    clear hW1
    go_wp2_with fail
    rw [← hW]
    go_ret
    exact ⟨rfl, HBW.out⟩
end Go.Proofs.Ytpmcpomomagkhaa
